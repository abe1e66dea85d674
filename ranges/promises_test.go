package ranges_test

import (
	"maps"
	"math"
	"slices"
	"testing"

	"sobriquet/api"
	"sobriquet/ranges"
)

// What the chapter says about tables.
const (
	groups    = 4352
	blockSize = 256
	last      = api.MaxScalar
)

// scattered returns so many ranges of one number each, none beside another.
func scattered(count int) []api.Range {
	var l []api.Range
	for i := range count {
		l = append(l, api.Range{From: 2 * i, To: 2 * i, Value: 1 + i})
	}
	return l
}

// beside returns so many ranges, each beside the next one, of which no two neighbours have the same value.
func beside(count, size int) []api.Range {
	var l []api.Range
	for i := range count {
		l = append(l, api.Range{From: i * size, To: (i+1)*size - 1, Value: 65535 - i%2})
	}
	return l
}

// validTables are flat tables with the edges that the chapter names.
func validTables() [][]api.Range {
	return [][]api.Range{
		nil,
		{},
		{{From: 0, To: 0, Value: 1}},
		{{From: 0, To: last, Value: 1}},
		{{From: 0, To: last, Value: 65535}},
		{{From: last, To: last, Value: 65535}},
		{{From: 0, To: 255, Value: 7}},
		{{From: 0, To: 256, Value: 7}},
		{{From: 255, To: 255, Value: 7}},
		{{From: 255, To: 256, Value: 7}},
		{{From: 256, To: 256, Value: 7}},
		{{From: 256, To: 511, Value: 7}},
		{{From: 1, To: 254, Value: 7}},
		{{From: 0xFFFF, To: 0x10000, Value: 7}},
		{{From: 0xD7FF, To: 0xE000, Value: 7}},
		{{From: last - 255, To: last, Value: 7}},
		{{From: last - 256, To: last - 255, Value: 7}},
		{{From: 3, To: 5, Value: 7}, {From: 6, To: 6, Value: 8}},
		{{From: 3, To: 5, Value: 7}, {From: 6, To: 6, Value: 7}},
		{{From: 3, To: 5, Value: 7}, {From: 7, To: 7, Value: 7}},
		{{From: 0, To: 255, Value: 1}, {From: 256, To: 511, Value: 1}, {From: 512, To: 600, Value: 1}},
		{{From: 0, To: 255, Value: 1}, {From: 256, To: 511, Value: 2}, {From: 512, To: 767, Value: 1}},
		{{From: 10, To: 20, Value: 1}, {From: 256 + 10, To: 256 + 20, Value: 1}, {From: last - 245, To: last - 235, Value: 1}},
		{{From: 0, To: 0x1000, Value: 1}, {From: 0x1001, To: last - 1, Value: 2}, {From: last, To: last, Value: 1}},
		{{From: 100, To: 1000, Value: 256}, {From: 5000, To: 5000, Value: 1}, {From: 0x10000, To: 0x101FF, Value: 65535}},
		scattered(1999),
		scattered(2000),
		beside(2000, 1),
		beside(2000, 256),
		beside(2000, 300),
		beside(2000, 557),
	}
}

// wrongRanges are ranges that no valid table has.
func wrongRanges() []api.Range {
	return []api.Range{
		{},
		{From: 0x300, To: 0x300},
		{From: 0x300, To: 0x300, Value: -1},
		{From: 0x300, To: 0x300, Value: 65536},
		{From: 0x300, To: 0x300, Value: 65536 + 1},
		{From: 0x300, To: 0x300, Value: math.MaxInt},
		{From: 0x300, To: 0x300, Value: math.MinInt},
		{From: 0x300, To: 0x2FF, Value: 1},
		{From: 0x300, To: 0, Value: 1},
		{From: 0x300, To: -1, Value: 1},
		{From: 0x300, To: math.MinInt, Value: 1},
		{From: 0x300, To: last + 1, Value: 1},
		{From: 0x300, To: math.MaxInt, Value: 1},
		{From: -1, To: 0x300, Value: 1},
		{From: -1, To: -1, Value: 1},
		{From: math.MinInt, To: 0x300, Value: 1},
		{From: math.MinInt, To: math.MaxInt, Value: 1},
		{From: last + 1, To: last + 1, Value: 1},
		{From: math.MaxInt, To: math.MaxInt, Value: 1},
		{From: math.MaxInt, To: math.MinInt, Value: 1},
	}
}

// mustNotBeValid checks that Check and Pack refuse l.
func mustNotBeValid(t *testing.T, l []api.Range) {
	t.Helper()
	if e := ranges.Check(l); e != api.ErrArg {
		t.Errorf("Check(%v) = %d; want ErrArg", l, e)
	}
	if s, e := ranges.Pack(l); e != api.ErrArg || s.Index != nil || s.Blocks != nil {
		t.Errorf("Pack(%v) = %d and %d numbers, %d; want ErrArg", l, len(s.Index), len(s.Blocks), e)
	}
}

// P5.1: Check, for valid tables and for each of their beginnings.
func TestCheckOfValidTables(t *testing.T) {
	for _, l := range validTables() {
		for count := range min(len(l), 4) + 1 {
			if e := ranges.Check(l[:count]); e != api.OK {
				t.Errorf("Check(%v) = %d", l[:count], e)
			}
		}
		if e := ranges.Check(l); e != api.OK {
			t.Errorf("Check of %d ranges = %d", len(l), e)
		}
	}
}

// P5.1: Check and Pack, for a range that may not be: alone, as the first, in the middle and as the last one.
func TestCheckOfWrongRanges(t *testing.T) {
	below, above := api.Range{From: 0x200, To: 0x2FE, Value: 1}, api.Range{From: last, To: last, Value: 1}
	for _, wrong := range wrongRanges() {
		mustNotBeValid(t, []api.Range{wrong})
		mustNotBeValid(t, []api.Range{wrong, above})
		mustNotBeValid(t, []api.Range{below, wrong, above})
		mustNotBeValid(t, []api.Range{below, wrong})
		mustNotBeValid(t, append(scattered(100), wrong))
	}
}

// P5.1: Check and Pack, for ranges that are out of order or overlap.
func TestCheckOfTheOrder(t *testing.T) {
	for _, l := range [][]api.Range{
		{{From: 2, To: 4, Value: 1}, {From: 4, To: 4, Value: 2}},
		{{From: 2, To: 4, Value: 1}, {From: 4, To: 9, Value: 1}},
		{{From: 2, To: 4, Value: 1}, {From: 3, To: 3, Value: 1}},
		{{From: 2, To: 4, Value: 1}, {From: 2, To: 4, Value: 1}},
		{{From: 2, To: 4, Value: 1}, {From: 0, To: 1, Value: 1}},
		{{From: 2, To: 4, Value: 1}, {From: 1, To: 9, Value: 1}},
		{{From: 0, To: 0, Value: 1}, {From: 0, To: 0, Value: 1}},
		{{From: 5, To: 6, Value: 1}, {From: 7, To: 8, Value: 1}, {From: 1, To: 1, Value: 2}},
		{{From: 5, To: 6, Value: 1}, {From: 7, To: 8, Value: 1}, {From: 6, To: 9, Value: 2}},
		{{From: last, To: last, Value: 1}, {From: last, To: last, Value: 1}},
		{{From: 0, To: last, Value: 1}, {From: last, To: last, Value: 1}},
	} {
		mustNotBeValid(t, l)
	}
}

// P5.1: Check and Pack, for one range more than 2000, and for many more.
func TestCheckOfTheCount(t *testing.T) {
	for _, count := range []int{2001, 2002, 4000, 100000} {
		l := scattered(count)
		for i := range l {
			l[i].Value = 1
		}
		if e := ranges.Check(l[:2000]); e != api.OK {
			t.Errorf("Check of 2000 ranges = %d", e)
		}
		if e := ranges.Check(l); e != api.ErrArg {
			t.Errorf("Check of %d ranges = %d", count, e)
		}
		if s, e := ranges.Pack(l); e != api.ErrArg || s.Index != nil || s.Blocks != nil {
			t.Errorf("Pack of %d ranges = %d", count, e)
		}
	}
}

func mustFlat(t *testing.T, l []api.Range, c, want int) {
	t.Helper()
	if got := ranges.Flat(l, c); got != want {
		t.Errorf("Flat(%v, %d) = %d; want %d", l[:min(len(l), 10)], c, got, want)
	}
}

// P5.1: Flat, for both ends of ranges and what lies beside them.
func TestFlatOfValidTables(t *testing.T) {
	l := []api.Range{{From: 3, To: 5, Value: 7}, {From: 6, To: 6, Value: 8}, {From: 0x250, To: 0x360, Value: 65535}, {From: last, To: last, Value: 1}}
	for _, c := range [][2]int{
		{math.MinInt, 0}, {-1, 0}, {0, 0}, {2, 0}, {3, 7}, {4, 7}, {5, 7}, {6, 8}, {7, 0}, {0x24F, 0}, {0x250, 65535}, {0x2FF, 65535},
		{0x300, 65535}, {0x360, 65535}, {0x361, 0}, {last - 1, 0}, {last, 1}, {last + 1, 0}, {math.MaxInt, 0},
	} {
		mustFlat(t, l, c[0], c[1])
		mustFlat(t, nil, c[0], 0)
	}
	mustFlat(t, scattered(2000), 3998, 2000)
	mustFlat(t, scattered(2000), 3997, 0)
}

// P5.1: Flat takes the first range that contains the number, whatever the table is like.
func TestFlatOfAnyTable(t *testing.T) {
	l := []api.Range{
		{From: 9, To: 1, Value: 3}, {From: 4, To: 6, Value: -4}, {From: 0, To: 9, Value: 70000}, {From: 5, To: 5, Value: 1}, {From: 20, To: 20, Value: 0},
		{From: 20, To: 30, Value: 2}, {From: -7, To: -5, Value: 11}, {From: last + 1, To: last + 9, Value: 12},
		{From: math.MaxInt, To: math.MaxInt, Value: math.MaxInt}, {From: math.MinInt, To: math.MinInt, Value: math.MinInt},
	}
	for _, c := range [][2]int{
		{0, 70000}, {1, 70000}, {3, 70000}, {4, -4}, {5, -4}, {6, -4}, {7, 70000}, {9, 70000}, {10, 0}, {20, 0}, {21, 2}, {30, 2}, {31, 0},
		{-8, 0}, {-7, 11}, {-5, 11}, {-4, 0}, {-1, 0}, {last, 0}, {last + 1, 12}, {last + 9, 12}, {last + 10, 0},
		{math.MaxInt, math.MaxInt}, {math.MaxInt - 1, 0}, {math.MinInt, math.MinInt}, {math.MinInt + 1, 0},
	} {
		mustFlat(t, l, c[0], c[1])
	}
	// The first range alone contains every number.
	all := append([]api.Range{{From: math.MinInt, To: math.MaxInt, Value: 77}}, l...)
	for _, c := range []int{math.MinInt, -1, 0, 5, last, last + 1, math.MaxInt} {
		mustFlat(t, all, c, 77)
	}
}

// written returns the value of every number, written range by range.
func written(l []api.Range) []int {
	values := make([]int, last+1)
	for _, r := range l {
		for c := r.From; c <= r.To; c++ {
			values[c] = r.Value
		}
	}
	return values
}

// mustBeTheTable checks by the words of the chapter that s is a two-stage table with these values.
func mustBeTheTable(t *testing.T, s api.Stage, values []int) {
	t.Helper()
	if len(s.Index) != groups || len(s.Blocks)%blockSize != 0 {
		t.Fatalf("Index has %d elements, Blocks %d", len(s.Index), len(s.Blocks))
	}
	used := 0
	for group, at := range s.Index {
		if at < 0 || at > used || (at+1)*blockSize > len(s.Blocks) {
			t.Fatalf("group %d has block %d, after %d blocks", group, at, used)
		}
		used = max(used, at+1)
		if !slices.Equal(s.Blocks[at*blockSize:][:blockSize], values[group*blockSize:][:blockSize]) {
			t.Fatalf("group %d has block %d, with other values", group, at)
		}
	}
	if len(s.Blocks) != used*blockSize {
		t.Fatalf("%d blocks are used, of %d numbers", used, len(s.Blocks))
	}
	seen := map[[blockSize]int]int{}
	for at := range used {
		b := [blockSize]int(s.Blocks[at*blockSize:])
		if first, ok := seen[b]; ok {
			t.Fatalf("the blocks %d and %d are equal", first, at)
		}
		seen[b] = at
	}
}

// P5.1: Pack, for valid tables.
func TestPack(t *testing.T) {
	for i, l := range validTables() {
		s, e := ranges.Pack(l)
		if e != api.OK {
			t.Fatalf("Pack of table %d = %d", i, e)
		}
		mustBeTheTable(t, s, written(l))
	}
}

// P5.1: Pack, with every number of the two-stage table written down.
func TestPackedTables(t *testing.T) {
	for _, c := range []struct {
		list   []api.Range
		index  map[int]int // of the groups that do not have block 0
		blocks int
		values map[int]int // of the places in Blocks that do not have 0
	}{
		{nil, nil, 1, nil}, // example 1
		{[]api.Range{{From: 0, To: 0, Value: 5}}, thenAll(map[int]int{}, 1), 2, map[int]int{0: 5}},
		{[]api.Range{{From: 256, To: 256, Value: 5}}, map[int]int{1: 1}, 2, map[int]int{256: 5}},
		{[]api.Range{{From: 255, To: 256, Value: 65535}}, thenAll(map[int]int{1: 1}, 2), 3, map[int]int{255: 65535, 256: 65535}},
		{[]api.Range{{From: 257, To: 257, Value: 5}, {From: 513, To: 513, Value: 5}}, map[int]int{1: 1, 2: 1}, 2, map[int]int{257: 5}},
		{[]api.Range{{From: 257, To: 257, Value: 5}, {From: 513, To: 513, Value: 6}}, map[int]int{1: 1, 2: 2}, 3, map[int]int{257: 5, 513: 6}},
		{[]api.Range{{From: last, To: last, Value: 1}}, map[int]int{4351: 1}, 2, map[int]int{511: 1}},
		{[]api.Range{{From: last - 256, To: last - 256, Value: 1}, {From: last, To: last, Value: 1}}, map[int]int{4350: 1, 4351: 1}, 2, map[int]int{511: 1}},
	} {
		s, e := ranges.Pack(c.list)
		if e != api.OK || len(s.Index) != groups || len(s.Blocks) != c.blocks*blockSize {
			t.Fatalf("Pack(%v) = %d and %d numbers, %d", c.list, len(s.Index), len(s.Blocks), e)
		}
		for group, at := range s.Index {
			if at != c.index[group] {
				t.Fatalf("Pack(%v): group %d has block %d; want %d", c.list, group, at, c.index[group])
			}
		}
		for at, value := range s.Blocks {
			if value != c.values[at] {
				t.Fatalf("Pack(%v): Blocks has %d at %d; want %d", c.list, value, at, c.values[at])
			}
		}
	}
}

// thenAll returns index with the next block for all groups from one on.
func thenAll(index map[int]int, from int) map[int]int {
	next := 1 + len(index)
	all := maps.Clone(index)
	for group := from; group < groups; group++ {
		all[group] = next
	}
	return all
}

// counted returns the numbers from one on, so many of them.
func counted(from, count int) []int {
	l := make([]int, count)
	for i := range l {
		l[i] = from + i
	}
	return l
}

func mustGet(t *testing.T, s api.Stage, c, want int) {
	t.Helper()
	if got := ranges.Get(s, c); got != want {
		t.Errorf("Get(%d and %d numbers, %d) = %d; want %d", len(s.Index), len(s.Blocks), c, got, want)
	}
}

// P5.1: Get, for Index of any length: it may be empty, too short or too long.
func TestGetOfAnyIndex(t *testing.T) {
	blocks := counted(1000, 2*blockSize)
	for _, count := range []int{0, 1, 2, 3, groups - 1, groups, groups + 1, groups + 100} {
		index := make([]int, count)
		for group := range index {
			index[group] = 1 - group%2
		}
		for _, group := range []int{0, 1, 2, 3, groups - 2, groups - 1} {
			for _, i := range []int{0, 1, 128, 255} {
				want := 0
				if group < count {
					want = 1000 + (1-group%2)*blockSize + i
				}
				mustGet(t, api.Stage{Index: index, Blocks: blocks}, group*blockSize+i, want)
			}
		}
		for _, c := range []int{-1, -2, -255, -256, -257, -last, math.MinInt, math.MinInt + 1, last + 1, last + 2, last + blockSize, last + 100*blockSize, math.MaxInt, math.MaxInt - 1} {
			mustGet(t, api.Stage{Index: index, Blocks: blocks}, c, 0)
		}
	}
}

// P5.1: Get, for Blocks of any length and for numbers in Index that are no block's.
func TestGetOfAnyBlocks(t *testing.T) {
	for _, length := range []int{0, 1, 255, 256, 257, 511, 512, 513, 767, 768, 769} {
		blocks := counted(1, length)
		for _, at := range []int{0, 1, 2, 3, 4, -1, -2, -256, math.MinInt, math.MaxInt, math.MaxInt - 1, math.MaxInt/blockSize - 1, math.MaxInt / blockSize, math.MaxInt/blockSize + 1, math.MinInt / blockSize, 1 << 56, 1 << 55, -1 << 56} {
			for _, i := range []int{0, 1, 254, 255} {
				want := 0
				if at >= 0 && at < 4 && at*blockSize+blockSize <= length {
					want = 1 + at*blockSize + i
				}
				mustGet(t, api.Stage{Index: []int{0, at}, Blocks: blocks}, blockSize+i, want)
			}
		}
	}
}

// P5.1: Get returns what is in Blocks, even what no value may be, and does not ask for the rest of the table to be right.
func TestGetOfAnyValue(t *testing.T) {
	for _, value := range []int{0, 1, 65535, 65536, -1, math.MaxInt, math.MinInt} {
		blocks := make([]int, blockSize+7)
		blocks[9] = value
		s := api.Stage{Index: []int{0, -5, 0, 8}, Blocks: blocks}
		mustGet(t, s, 9, value)
		mustGet(t, s, 2*blockSize+9, value)
		mustGet(t, s, 10, 0)
		mustGet(t, s, blockSize+9, 0)
		mustGet(t, s, 3*blockSize+9, 0)
		mustGet(t, s, 4*blockSize+9, 0)
	}
}

// fewest returns the flat table with the fewest ranges that has these values.
func fewest(values []int) []api.Range {
	var l []api.Range
	for from := 0; from < len(values); {
		to := from
		for to+1 < len(values) && values[to+1] == values[from] {
			to++
		}
		if values[from] != 0 {
			l = append(l, api.Range{From: from, To: to, Value: values[from]})
		}
		from = to + 1
	}
	return l
}

func mustUnpack(t *testing.T, s api.Stage, want []api.Range) {
	t.Helper()
	if got, e := ranges.Unpack(s); e != api.OK || !slices.Equal(got, want) {
		t.Errorf("Unpack(%d and %d numbers) = %v, %d; want %v", len(s.Index), len(s.Blocks), got[:min(len(got), 10)], e, want[:min(len(want), 10)])
	}
}

func mustNotUnpack(t *testing.T, what string, s api.Stage) {
	t.Helper()
	if got, e := ranges.Unpack(s); e != api.ErrArg || got != nil {
		t.Errorf("%s: Unpack(%d and %d numbers) = %d ranges, %d; want ErrArg", what, len(s.Index), len(s.Blocks), len(got), e)
	}
}

// P5.1: Unpack, for packed tables: adjacent numbers with the same value come back as one range.
func TestUnpackOfPackedTables(t *testing.T) {
	for _, l := range validTables() {
		s, _ := ranges.Pack(l)
		mustUnpack(t, s, fewest(written(l)))
	}
	s, _ := ranges.Pack([]api.Range{{From: 1, To: 2, Value: 4}, {From: 3, To: 3, Value: 4}, {From: 4, To: 4, Value: 5}, {From: 6, To: 6, Value: 5}})
	mustUnpack(t, s, []api.Range{{From: 1, To: 3, Value: 4}, {From: 4, To: 4, Value: 5}, {From: 6, To: 6, Value: 5}})
	s, _ = ranges.Pack(beside(2000, 256))
	mustUnpack(t, s, beside(2000, 256))
	// 2000 ranges that are one.
	l := beside(2000, 500)
	for i := range l {
		l[i].Value = 65535
	}
	s, _ = ranges.Pack(l)
	mustUnpack(t, s, []api.Range{{From: 0, To: 2000*500 - 1, Value: 65535}})
}

// P5.1: Unpack does not ask the blocks to be different, in order or used.
func TestUnpackOfOtherTables(t *testing.T) {
	index := make([]int, groups)
	blocks := slices.Concat(make([]int, blockSize), counted(65280, blockSize), make([]int, blockSize), slices.Repeat([]int{3}, blockSize))
	mustUnpack(t, api.Stage{Index: index, Blocks: blocks}, nil)
	index[5], index[6], index[7], index[groups-1] = 3, 3, 2, 3
	mustUnpack(t, api.Stage{Index: index, Blocks: blocks}, []api.Range{
		{From: 5 * blockSize, To: 7*blockSize - 1, Value: 3}, {From: last - 255, To: last, Value: 3},
	})
	for i := range index {
		index[i] = 3
	}
	mustUnpack(t, api.Stage{Index: index, Blocks: blocks}, []api.Range{{From: 0, To: last, Value: 3}})
	index[1] = 1
	l, e := ranges.Unpack(api.Stage{Index: index, Blocks: blocks})
	if e != api.OK || len(l) != 258 || l[0] != (api.Range{From: 0, To: 255, Value: 3}) || l[256] != (api.Range{From: 511, To: 511, Value: 65535}) || l[257] != (api.Range{From: 512, To: last, Value: 3}) {
		t.Errorf("Unpack = %d ranges, %d", len(l), e)
	}
	// Equal blocks that follow each other hold one range.
	two := append(append(make([]int, blockSize-1), 9), slices.Repeat([]int{9}, 2*blockSize)...)
	index = make([]int, groups)
	index[1], index[2] = 1, 2
	for i := 3; i < groups; i++ {
		index[i] = 3
	}
	mustUnpack(t, api.Stage{Index: index, Blocks: append(two, make([]int, blockSize)...)}, []api.Range{{From: 255, To: 3*blockSize - 1, Value: 9}})
}

// P5.1: Unpack refuses tables that are none, whichever number is wrong.
func TestUnpackOfWrongTables(t *testing.T) {
	right := func() api.Stage {
		return api.Stage{Index: make([]int, groups), Blocks: make([]int, 3*blockSize)}
	}
	mustUnpack(t, right(), nil)
	mustNotUnpack(t, "nothing", api.Stage{})
	for _, count := range []int{0, 1, groups - 1, groups + 1, 2 * groups, blockSize} {
		s := right()
		s.Index = make([]int, count)
		mustNotUnpack(t, "Index too short or too long", s)
	}
	for _, length := range []int{0, 1, 255, 257, 511, 513, 767, 769} {
		s := right()
		s.Blocks = make([]int, length)
		mustNotUnpack(t, "no block or one that is not complete", s)
	}
	for _, group := range []int{0, 1, 255, 256, 2000, groups - 2, groups - 1} {
		for _, at := range []int{3, 4, 256, -1, -2, math.MaxInt, math.MinInt, 1 << 56, math.MaxInt / blockSize, math.MinInt / blockSize} {
			s := right()
			s.Index[group] = at
			mustNotUnpack(t, "no block's number", s)
		}
		s := right()
		s.Index[group] = 2
		mustUnpack(t, s, nil)
	}
	for _, place := range []int{0, 1, 255, 256, 511, 512, 767} {
		for _, value := range []int{-1, 65536, math.MinInt, math.MaxInt, 1 << 32, -65535} {
			s := right()
			s.Blocks[place] = value
			mustNotUnpack(t, "no value", s)
		}
	}
}

// P5.1: Unpack, for values on both sides of the limits.
func TestUnpackOfTheValues(t *testing.T) {
	for _, value := range []int{0, 1, 2, 255, 256, 65534, 65535} {
		s := api.Stage{Index: make([]int, groups), Blocks: make([]int, 2*blockSize)}
		s.Index[groups-1] = 1
		s.Blocks[511] = value
		var want []api.Range
		if value > 0 {
			want = []api.Range{{From: last, To: last, Value: value}}
		}
		mustUnpack(t, s, want)
	}
}

// P5.1: Unpack, for 2000 ranges and for 2001, which end early, late, or where the numbers end.
func TestUnpackOfTheCount(t *testing.T) {
	for _, count := range []int{1999, 2000, 2001, 2002} {
		for _, gap := range []int{1, 2, 3, 255, 256, 257, 500} {
			for _, first := range []int{0, 1, last - (count-1)*gap} {
				values := make([]int, last+1)
				for i := range count {
					values[first+i*gap] = 1 + i
				}
				s := api.Stage{Index: counted(0, groups), Blocks: values}
				if count > 2000 {
					mustNotUnpack(t, "too many ranges", s)
				} else {
					mustUnpack(t, s, fewest(values))
				}
			}
		}
	}
}

// P5.2: Get of a packed table returns what Flat returns for the flat one, for every number at an end of a range or a group.
func TestGetIsFlat(t *testing.T) {
	for i, l := range validTables() {
		s, e := ranges.Pack(l)
		if e != api.OK {
			t.Fatalf("Pack of table %d = %d", i, e)
		}
		numbers := []int{math.MinInt, -blockSize, -1, 0, 1, 0xD800, 0xDFFF, last - 1, last, last + 1, last + blockSize, math.MaxInt}
		for _, r := range l[:min(len(l), 300)] {
			numbers = append(numbers, r.From-1, r.From, (r.From+r.To)/2, r.To, r.To+1)
		}
		for group := 0; group <= groups; group += 31 {
			numbers = append(numbers, group*blockSize-1, group*blockSize)
		}
		for _, c := range numbers {
			if got, want := ranges.Get(s, c), ranges.Flat(l, c); got != want {
				t.Fatalf("table %d: Get(%d) = %d; Flat is %d", i, c, got, want)
			}
		}
	}
}

// P5.2: the same for every number there is.
func TestGetIsFlatForEveryNumber(t *testing.T) {
	l := []api.Range{{From: 0, To: 9, Value: 1}, {From: 200, To: 300, Value: 65535}, {From: 301, To: 1023, Value: 2}, {From: 0xD800, To: 0xDFFF, Value: 3}, {From: last - 300, To: last, Value: 4}}
	s, _ := ranges.Pack(l)
	for c := -300; c <= last+300; c++ {
		if got, want := ranges.Get(s, c), ranges.Flat(l, c); got != want {
			t.Fatalf("Get(%d) = %d; Flat is %d", c, got, want)
		}
	}
}
