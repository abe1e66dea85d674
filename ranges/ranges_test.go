package ranges_test

import (
	"math"
	"slices"
	"testing"

	"sobriquet/api"
	"sobriquet/ranges"
)

// isValid tells by the words of the chapter whether l is a valid flat table.
func isValid(l []api.Range) bool {
	for i, r := range l {
		if r.From < 0 || r.From > last || r.To < 0 || r.To > last || r.To < r.From || r.Value < 1 || r.Value > 65535 {
			return false
		}
		if i > 0 && r.From <= l[i-1].To {
			return false
		}
	}
	return len(l) <= 2000
}

// choices returns all ranges with ends and values of a choice.
func choices(ends, values []int) []api.Range {
	var l []api.Range
	for _, from := range ends {
		for _, to := range ends {
			for _, value := range values {
				l = append(l, api.Range{From: from, To: to, Value: value})
			}
		}
	}
	return l
}

// P5.1: Check, for all tables with two or three ranges of a choice.
func TestCheckOfAllShortTables(t *testing.T) {
	mustCheck := func(l []api.Range) {
		if e := ranges.Check(l); (e == api.OK) != isValid(l) || e != api.OK && e != api.ErrArg {
			t.Fatalf("Check(%v) = %d", l, e)
		}
	}
	all := choices([]int{math.MinInt, -1, 0, 1, 255, 256, last, last + 1, math.MaxInt}, []int{math.MinInt, -1, 0, 1, 65535, 65536})
	for _, a := range all {
		mustCheck([]api.Range{a})
		for _, b := range all {
			mustCheck([]api.Range{a, b})
		}
	}
	few := choices([]int{-1, 0, 1, 2, 3, last}, []int{1})
	for _, a := range few {
		for _, b := range few {
			for _, c := range few {
				mustCheck([]api.Range{a, b, c})
			}
		}
	}
}

// P5.1: Flat, for all tables with two or three ranges of a choice, valid or not.
func TestFlatOfAllShortTables(t *testing.T) {
	few := choices([]int{-1, 0, 1, 2, 3}, []int{5})
	for _, a := range few {
		for _, b := range few {
			for _, c := range few[:10] {
				l := []api.Range{{From: a.From, To: a.To, Value: 1}, {From: b.From, To: b.To, Value: 2}, {From: c.From, To: c.To, Value: 3}}
				for number := -2; number <= 4; number++ {
					want := 0
					for i := range l {
						if r := l[len(l)-1-i]; r.From <= number && number <= r.To {
							want = r.Value
						}
					}
					mustFlat(t, l, number, want)
				}
			}
		}
	}
}

// P5.1, P5.2: tables of two ranges at the ends of groups, packed and unpacked.
func TestTablesAtTheEndsOfGroups(t *testing.T) {
	few := choices([]int{0, 254, 255, 256, 511, 512, last - 256, last - 255, last}, []int{1})
	for _, a := range few {
		for _, b := range few {
			for value := 1; value <= 2; value++ {
				b.Value = value
				if l := []api.Range{a, b}; isValid(l) {
					mustHold(t, l)
				}
			}
		}
	}
}

// mustHold checks that l can be packed, with what Get and Unpack make of it.
func mustHold(t *testing.T, l []api.Range) {
	t.Helper()
	s, e := ranges.Pack(l)
	if e != api.OK {
		t.Fatalf("Pack(%v) = %d", l, e)
	}
	want := l
	if len(l) == 2 && l[0].To+1 == l[1].From && l[0].Value == l[1].Value {
		want = []api.Range{{From: l[0].From, To: l[1].To, Value: l[0].Value}}
	}
	mustUnpack(t, s, want)
	for _, r := range l {
		for _, c := range []int{r.From - 1, r.From, r.To, r.To + 1} {
			mustGet(t, s, c, ranges.Flat(l, c))
		}
	}
}

// mixed returns a valid table, another one for each seed.
func mixed(seed int) []api.Range {
	state := uint64(seed)*2654435761 + 12345
	next := func(below int) int {
		state = state*6364136223846793005 + 1442695040888963407
		return int(state>>33) % below
	}
	var l []api.Range
	spread := 1 + next(1500)
	for from := next(1 + spread); len(l) < 2000; {
		to := from + next(1+next(spread))
		if to > last {
			break
		}
		l = append(l, api.Range{From: from, To: to, Value: 1 + next(1+next(3))*next(32000)})
		from = to + 1 + next(2)*next(spread)
	}
	return l
}

// P5.1, P5.2: longer tables.
func TestMixedTables(t *testing.T) {
	for seed := range 60 {
		l := mixed(seed)
		values := written(l)
		s, e := ranges.Pack(l)
		if e != api.OK || !isValid(l) {
			t.Fatalf("table %d: Pack = %d", seed, e)
		}
		mustBeTheTable(t, s, values)
		mustUnpack(t, s, fewest(values))
		for c := 0; c <= last; c += 1 + seed {
			if got := ranges.Get(s, c); got != values[c] {
				t.Fatalf("table %d: Get(%d) = %d; want %d", seed, c, got, values[c])
			}
		}
		back, _ := ranges.Unpack(s)
		again, e := ranges.Pack(back)
		if e != api.OK || !slices.Equal(again.Index, s.Index) || !slices.Equal(again.Blocks, s.Blocks) {
			t.Fatalf("table %d: packed again it is another one, %d", seed, e)
		}
	}
}

// R1: tables of many numbers end in time.
func TestLongTables(t *testing.T) {
	const many = 1 << 21
	l := make([]api.Range, many)
	for i := range l {
		l[i] = api.Range{From: i, To: i - 1, Value: 1}
	}
	l[many-1] = api.Range{From: 7, To: math.MaxInt, Value: 9}
	mustFlat(t, l, 7, 9)
	mustFlat(t, l, 6, 0)
	if e := ranges.Check(l); e != api.ErrArg {
		t.Errorf("Check = %d", e)
	}
	wide := []api.Range{{From: math.MinInt, To: math.MaxInt, Value: math.MaxInt}}
	mustNotBeValid(t, wide)
	numbers := make([]int, many)
	mustNotUnpack(t, "long Index", api.Stage{Index: numbers, Blocks: numbers})
	mustUnpack(t, api.Stage{Index: make([]int, groups), Blocks: numbers}, nil)
	mustNotUnpack(t, "long Blocks", api.Stage{Index: make([]int, groups), Blocks: numbers[1:]})
	mustGet(t, api.Stage{Index: numbers, Blocks: numbers}, last, 0)
	numbers[many-1] = 65535
	index := slices.Repeat([]int{many/blockSize - 1}, groups)
	mustNotUnpack(t, "a range in each group", api.Stage{Index: index, Blocks: numbers})
	mustGet(t, api.Stage{Index: index, Blocks: numbers}, last, 65535)
	for i := range numbers {
		numbers[i] = 1 + i%2
	}
	mustNotUnpack(t, "a range for each number", api.Stage{Index: index, Blocks: numbers})
}

// R2, R6: the flat table stays as it is, with what stands behind it, which is not read.
func TestFlatTablesStayAsTheyAre(t *testing.T) {
	full := []api.Range{{From: 1, To: 2, Value: 3}, {From: 3, To: 300, Value: 3}, {From: 500, To: 500, Value: 4}, {From: 0, To: last, Value: 9}, {From: -1, To: -2, Value: -3}}
	kept := slices.Clone(full)
	for count := range 4 {
		l := full[:count]
		if e := ranges.Check(l); e != api.OK {
			t.Errorf("Check(%v) = %d", l, e)
		}
		s, e := ranges.Pack(l)
		if e != api.OK {
			t.Fatalf("Pack(%v) = %d", l, e)
		}
		mustBeTheTable(t, s, written(l))
		mustFlat(t, l, 0, 0)
		mustFlat(t, l, 500, 4*(count/3))
		if !slices.Equal(full, kept) {
			t.Fatalf("the table has become %v", full)
		}
	}
	mustNotBeValid(t, full)
	if !slices.Equal(full, kept) {
		t.Fatalf("the table has become %v", full)
	}
}

// R2, R6: a two-stage table stays as it is, with what stands behind it, which is not read.
func TestTwoStageTablesStayAsTheyAre(t *testing.T) {
	index, blocks := make([]int, groups+5), make([]int, 3*blockSize)
	index[3], index[4] = 1, 1
	blocks[blockSize], blocks[2*blockSize] = 65535, 7
	keptIndex, keptBlocks := slices.Clone(index), slices.Clone(blocks)
	s := api.Stage{Index: index[:groups], Blocks: blocks[:2*blockSize]}
	mustUnpack(t, s, []api.Range{{From: 768, To: 768, Value: 65535}, {From: 1024, To: 1024, Value: 65535}})
	mustGet(t, s, 768, 65535)
	mustNotUnpack(t, "Index too short", api.Stage{Index: index[:groups-1], Blocks: blocks})
	mustNotUnpack(t, "Blocks too short", api.Stage{Index: index[:groups], Blocks: blocks[:blockSize]})
	mustNotUnpack(t, "Blocks not complete", api.Stage{Index: index[:groups], Blocks: blocks[:2*blockSize-1]})
	mustGet(t, api.Stage{Index: index[:3], Blocks: blocks}, 768, 0)
	mustGet(t, api.Stage{Index: index[:4], Blocks: blocks[:2*blockSize-1]}, 768, 0)
	mustGet(t, api.Stage{Index: index[:4], Blocks: blocks[:blockSize]}, 768, 0)
	if !slices.Equal(index, keptIndex) || !slices.Equal(blocks, keptBlocks) {
		t.Error("the table has become another one")
	}
}

// spoil writes over a result and over its spare capacity.
func spoil[T any](l []T, with T) {
	full := l[:cap(l)]
	for i := range full {
		full[i] = with
	}
}

// R2: what Pack returns shares memory neither with the flat table nor with another result, nor Index with Blocks.
func TestPackReturnsNewMemory(t *testing.T) {
	for _, l := range [][]api.Range{nil, {{From: 5, To: 700, Value: 3}, {From: last, To: last, Value: 1}}, scattered(2000)} {
		kept, values := slices.Clone(l), written(l)
		other, _ := ranges.Pack(l)
		s, _ := ranges.Pack(l)
		spoil(s.Index, -1)
		if slices.Contains(s.Blocks, -1) {
			t.Error("Index shares memory with Blocks")
		}
		spoil(s.Blocks, -2)
		if slices.Contains(s.Index, -2) {
			t.Error("Blocks shares memory with Index")
		}
		mustBeTheTable(t, other, values)
		again, _ := ranges.Pack(l)
		mustBeTheTable(t, again, values)
		if !slices.Equal(l, kept) {
			t.Error("the table has become another one")
		}
	}
}

// R2: what Unpack returns shares memory neither with the two-stage table nor with another result.
func TestUnpackReturnsNewMemory(t *testing.T) {
	want := []api.Range{{From: 5, To: 700, Value: 3}, {From: last, To: last, Value: 1}}
	s, _ := ranges.Pack(want)
	index, blocks := slices.Clone(s.Index), slices.Clone(s.Blocks)
	other, _ := ranges.Unpack(s)
	l, e := ranges.Unpack(s)
	if e != api.OK || len(l) != 2 {
		t.Fatalf("Unpack = %v, %d", l, e)
	}
	spoil(l, api.Range{From: -1, To: -1, Value: -1})
	if !slices.Equal(other, want) || !slices.Equal(s.Index, index) || !slices.Equal(s.Blocks, blocks) {
		t.Error("a result shares memory")
	}
	mustUnpack(t, s, want)
	// A table that is changed after it was packed or unpacked changes no result.
	flat := slices.Clone(want)
	s, _ = ranges.Pack(flat)
	back, _ := ranges.Unpack(s)
	flat[0].Value = 8
	mustGet(t, s, 5, 3)
	spoil(s.Index, 0)
	spoil(s.Blocks, 0)
	if !slices.Equal(back, want) {
		t.Errorf("the result has become %v", back)
	}
}
