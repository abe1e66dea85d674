package choose_test

import (
	"math"
	"slices"
	"strings"
	"testing"

	"sobriquet/api"
	"sobriquet/choose"
	"sobriquet/str"
)

// kinds are the eight kinds.
var kinds = []int{api.Utf8, api.Numeric, api.Printable, api.Teletex, api.Ia5, api.Visible, api.Universal, api.Bmp}

// scalars returns the scalars of text.
func scalars(text string) []int {
	var s []int
	for _, r := range text {
		s = append(s, int(r))
	}
	return s
}

// mustFit checks Fits, also against what Put returns.
func mustFit(t *testing.T, kind int, s []int, want bool) {
	_, _, e := str.Put(kind, s)
	if got := choose.Fits(kind, s); got != want || got != (e == api.OK && len(s) > 0) {
		t.Helper()
		t.Errorf("Fits(%d, %#x) = %t; want %t; the error of Put is %d", kind, s, got, want, e)
	}
}

// mustFirst checks what First returns.
func mustFirst(t *testing.T, list, s []int, want int, fault api.Errno) {
	if got, e := choose.First(list, s); got != want || e != fault {
		t.Helper()
		t.Errorf("First(%d, %#x) = %d, %d; want %d, %d", list, s, got, e, want, fault)
	}
}

// mustLeast checks what Least returns.
func mustLeast(t *testing.T, list, s []int, want int, fault api.Errno) {
	if got, e := choose.Least(list, s); got != want || e != fault {
		t.Helper()
		t.Errorf("Least(%d, %#x) = %d, %d; want %d, %d", list, s, got, e, want, fault)
	}
}

// mustNeither checks that First and Least return the error.
func mustNeither(t *testing.T, list, s []int, fault api.Errno) {
	t.Helper()
	mustFirst(t, list, s, 0, fault)
	mustLeast(t, list, s, 0, fault)
}

// sample is a text, and the number of bytes of its content as each kind that it fits.
type sample struct {
	text  string
	sizes map[int]int
}

// samples returns texts that fit more or fewer of the kinds.
func samples() []sample {
	return []sample{
		{"1", map[int]int{api.Utf8: 1, api.Numeric: 1, api.Printable: 1, api.Teletex: 1, api.Ia5: 1, api.Visible: 1, api.Universal: 4, api.Bmp: 2}},
		{"1 2", map[int]int{api.Utf8: 3, api.Numeric: 3, api.Printable: 3, api.Teletex: 3, api.Ia5: 3, api.Visible: 3, api.Universal: 12, api.Bmp: 6}},
		{"1=a", map[int]int{api.Utf8: 3, api.Printable: 3, api.Teletex: 3, api.Ia5: 3, api.Visible: 3, api.Universal: 12, api.Bmp: 6}},
		{"a@", map[int]int{api.Utf8: 2, api.Teletex: 2, api.Ia5: 2, api.Visible: 2, api.Universal: 8, api.Bmp: 4}},
		{"a{", map[int]int{api.Utf8: 2, api.Teletex: 5, api.Ia5: 2, api.Visible: 2, api.Universal: 8, api.Bmp: 4}},
		{"\n", map[int]int{api.Utf8: 1, api.Teletex: 1, api.Ia5: 1, api.Universal: 4, api.Bmp: 2}},
		{"\x00", map[int]int{api.Utf8: 1, api.Ia5: 1, api.Universal: 4, api.Bmp: 2}},
		{"é", map[int]int{api.Utf8: 2, api.Teletex: 2, api.Universal: 4, api.Bmp: 2}},
		{"éa", map[int]int{api.Utf8: 3, api.Teletex: 3, api.Universal: 8, api.Bmp: 4}},
		{"α", map[int]int{api.Utf8: 2, api.Teletex: 4, api.Universal: 4, api.Bmp: 2}},
		{"ααα", map[int]int{api.Utf8: 6, api.Teletex: 6, api.Universal: 12, api.Bmp: 6}},
		{"αααα", map[int]int{api.Utf8: 8, api.Teletex: 7, api.Universal: 16, api.Bmp: 8}},
		{"水", map[int]int{api.Utf8: 3, api.Universal: 4, api.Bmp: 2}},
		{"a水", map[int]int{api.Utf8: 4, api.Universal: 8, api.Bmp: 4}},
		{"ab水", map[int]int{api.Utf8: 5, api.Universal: 12, api.Bmp: 6}},
		{"😀", map[int]int{api.Utf8: 4, api.Universal: 4}},
		{"水😀", map[int]int{api.Utf8: 7, api.Universal: 8}},
	}
}

// first returns the first kind of the list that the sample fits; 0 if there is none.
func (x sample) first(list []int) int {
	for _, kind := range list {
		if x.sizes[kind] > 0 {
			return kind
		}
	}
	return 0
}

// least returns the first kind of the list that needs the fewest bytes for the sample; 0 if it fits none.
func (x sample) least(list []int) int {
	fitting := slices.DeleteFunc(slices.Clone(list), func(kind int) bool { return x.sizes[kind] == 0 })
	if len(fitting) == 0 {
		return 0
	}
	// Of equally small ones, MinFunc takes the first one.
	return slices.MinFunc(fitting, func(a, b int) int { return x.sizes[a] - x.sizes[b] })
}

// mustChoose checks First and Least for the sample.
func (x sample) mustChoose(t *testing.T, list []int) {
	t.Helper()
	s, first := scalars(x.text), x.first(list)
	if first == 0 {
		mustNeither(t, list, s, api.ErrNot)
		return
	}
	mustFirst(t, list, s, first, api.OK)
	mustLeast(t, list, s, x.least(list), api.OK)
}

// P20.1: the example of the chapter.
func TestExample(t *testing.T) {
	mustFirst(t, []int{api.Printable, api.Utf8}, []int{0xE9}, api.Utf8, api.OK)
}

// P20.1: texts that fit some of the kinds and not the others.
func TestFits(t *testing.T) {
	for _, x := range samples() {
		for _, kind := range kinds {
			mustFit(t, kind, scalars(x.text), x.sizes[kind] > 0)
		}
	}
}

// noKinds returns numbers that are none of the eight kinds: those near them, and far ones whose lowest bits are those of a kind.
func noKinds() []int {
	l := []int{math.MinInt, math.MinInt + 1, math.MinInt32, api.MaxTag, math.MaxInt32, math.MaxUint32, math.MaxInt - 1, math.MaxInt}
	for kind := -70; kind <= 300; kind++ {
		if !slices.Contains(kinds, kind) {
			l = append(l, kind)
		}
	}
	for _, kind := range kinds {
		for _, shift := range []int{5, 7, 8, 16, 31, 32, 48, 62, 63} {
			l = append(l, kind+1<<shift, kind-1<<shift)
		}
	}
	return l
}

// P20.1: no scalars fit nothing, whatever the kind.
func TestNoScalars(t *testing.T) {
	for _, s := range [][]int{nil, {}, make([]int, 0, 4), []int{'1', '2'}[:0]} {
		for _, kind := range append(noKinds(), kinds...) {
			mustFit(t, kind, s, false)
			mustNeither(t, []int{kind}, s, api.ErrEmpty)
		}
		mustNeither(t, nil, s, api.ErrEmpty)
		mustNeither(t, []int{}, s, api.ErrEmpty)
		mustNeither(t, kinds, s, api.ErrEmpty)
		mustNeither(t, noKinds(), s, api.ErrEmpty)
	}
}

// P20.1, R1: nothing fits what is none of the eight kinds, and in a list it is passed over.
func TestNoKinds(t *testing.T) {
	for _, kind := range noKinds() {
		for _, s := range [][]int{{'1'}, {'1', ' '}, {0xE9}, {-1}, {math.MaxInt}} {
			mustFit(t, kind, s, false)
			mustNeither(t, []int{kind}, s, api.ErrNot)
			mustNeither(t, []int{kind, kind, 0}, s, api.ErrNot)
		}
		for _, list := range [][]int{{kind, api.Bmp, api.Ia5}, {api.Bmp, kind, api.Ia5}, {api.Bmp, api.Ia5, kind}} {
			mustFirst(t, list, []int{'1'}, api.Bmp, api.OK)
			mustLeast(t, list, []int{'1'}, api.Ia5, api.OK)
		}
	}
	mustNeither(t, noKinds(), []int{'1'}, api.ErrNot)
}

// P20.1: without a kind in the list, there is none to return.
func TestNoList(t *testing.T) {
	for _, list := range [][]int{nil, {}, make([]int, 0, 4), kinds[:0]} {
		for _, s := range [][]int{{'1'}, {0xE9, 'a'}, {-1}} {
			mustNeither(t, list, s, api.ErrNot)
		}
	}
}

// missing returns, for each kind, numbers that it does not have.
func missing(kind int) []int {
	l := []int{math.MinInt, math.MinInt32, -0x110000, -1, 0xD800, 0xDBFF, 0xDC00, 0xDFFF, api.MaxScalar + 1, math.MaxInt32, 1<<32 + '1', math.MaxInt}
	switch kind {
	case api.Numeric:
		l = append(l, 0, '/', ':', 'a', 0xA0)
	case api.Printable:
		l = append(l, 0, '*', '@', '_', 0xE9)
	case api.Teletex:
		l = append(l, 0, '\t', 0xA0, 0x300, 0x6C34)
	case api.Ia5:
		l = append(l, 0x80, 0xE9, 0x6C34)
	case api.Visible:
		l = append(l, 0, 0x1F, 0x7F, 0xE9)
	case api.Bmp:
		l = append(l, 0x10000, api.MaxScalar)
	}
	return l
}

// P20.1, R1: a number that the kind does not have, alone, at the beginning, in the middle and at the end.
func TestMissing(t *testing.T) {
	for _, kind := range kinds {
		mustFit(t, kind, scalars("1 2 3"), true)
		for _, c := range missing(kind) {
			for _, s := range [][]int{{c}, {c, '1', ' '}, {'1', c, ' '}, {'1', ' ', c}, {c, '1', c}} {
				mustFit(t, kind, s, false)
				mustNeither(t, []int{kind}, s, api.ErrNot)
				mustNeither(t, []int{kind, 99, kind}, s, api.ErrNot)
			}
		}
	}
	for _, c := range []int{math.MinInt, -1, 0xD800, 0xDFFF, api.MaxScalar + 1, math.MaxInt} {
		for _, s := range [][]int{{c}, {c, '1', ' '}, {'1', c, ' '}, {'1', ' ', c}} {
			mustNeither(t, kinds, s, api.ErrNot)
		}
	}
}

// P20.1: First asks for the order of the list alone, Least for the bytes ahead of it.
func TestChoices(t *testing.T) {
	for _, x := range []struct {
		text         string
		list         []int
		first, least int
	}{
		{"1", []int{api.Universal, api.Bmp, api.Utf8, api.Numeric}, api.Universal, api.Utf8},
		{"1", []int{api.Numeric, api.Utf8, api.Bmp, api.Universal}, api.Numeric, api.Numeric},
		{"1", []int{api.Bmp, api.Universal}, api.Bmp, api.Bmp},
		{"1", []int{api.Universal, api.Bmp}, api.Universal, api.Bmp},
		{"a", []int{api.Numeric, api.Utf8, api.Printable}, api.Utf8, api.Utf8},
		{"a", []int{api.Numeric, api.Printable, api.Utf8}, api.Printable, api.Printable},
		{"a", []int{api.Visible, api.Ia5, api.Printable}, api.Visible, api.Visible},
		{"a{", []int{api.Teletex, api.Printable, api.Bmp, api.Visible}, api.Teletex, api.Visible},
		{"αααα", []int{api.Utf8, api.Bmp, api.Teletex}, api.Utf8, api.Teletex},
		{"ααα", []int{api.Bmp, api.Utf8, api.Teletex}, api.Bmp, api.Bmp},
		{"ααα", []int{api.Teletex, api.Bmp, api.Utf8}, api.Teletex, api.Teletex},
		{"α", []int{api.Teletex, api.Universal}, api.Teletex, api.Teletex},
		{"α", []int{api.Universal, api.Teletex}, api.Universal, api.Universal},
		{"水", []int{api.Teletex, api.Utf8, api.Bmp}, api.Utf8, api.Bmp},
		{"😀", []int{api.Bmp, api.Universal, api.Utf8}, api.Universal, api.Universal},
		{"😀", []int{api.Bmp, api.Utf8, api.Universal}, api.Utf8, api.Utf8},
		{"水😀", []int{api.Universal, api.Utf8, api.Bmp}, api.Universal, api.Utf8},
		{"1", []int{api.Bmp, api.Bmp, 7, api.Bmp}, api.Bmp, api.Bmp},
		{"é", []int{api.Universal, api.Ia5, api.Universal, api.Teletex, api.Ia5, api.Utf8}, api.Universal, api.Teletex},
	} {
		mustFirst(t, x.list, scalars(x.text), x.first, api.OK)
		mustLeast(t, x.list, scalars(x.text), x.least, api.OK)
	}
	mustNeither(t, []int{api.Bmp, api.Teletex, api.Ia5, api.Visible, api.Printable, api.Numeric}, scalars("1😀"), api.ErrNot)
	mustNeither(t, []int{api.Numeric, api.Printable}, scalars("1*"), api.ErrNot)
}

// P20.1: lengths at which the header grows, where Least still returns the kind whose value is the shortest.
func TestLengths(t *testing.T) {
	for _, n := range []int{63, 64, 126, 127, 128, 129, 254, 255, 256, 257, 65535, 65536} {
		for _, unit := range []string{"1", "é", "α", "水", "😀"} {
			s := scalars(strings.Repeat(unit, n))
			for _, list := range [][]int{kinds, {api.Universal, api.Bmp, api.Teletex, api.Utf8}, {api.Utf8, api.Teletex, api.Bmp, api.Universal}, {api.Bmp, api.Utf8}} {
				want, fewest := 0, math.MaxInt
				for _, kind := range list {
					if b, _, e := str.Encode(kind, s); e == api.OK && len(b) < fewest {
						want, fewest = kind, len(b)
					}
				}
				if got, e := choose.Least(list, s); got != want || e != api.OK {
					t.Errorf("Least(%d, %d of %s) = %d, %d; want %d", list, n, unit, got, e, want)
				}
			}
		}
	}
}

// P20.1: contents of which one has one byte more than the other, or as many, on both sides of each border of the length.
func TestBorders(t *testing.T) {
	for _, n := range []int{127, 128, 255, 256, 65535, 65536} {
		ones := strings.Repeat("1", n-2)
		equal := scalars(ones + "é")   // n bytes as Utf8 and as Teletex
		shorter := scalars(ones + "¤") // n bytes as Utf8, one less as Teletex
		longer := scalars(ones + "{")  // n-1 bytes as Utf8, three more as Teletex
		for _, x := range []struct {
			s    []int
			list []int
			want int
		}{
			{equal, []int{api.Utf8, api.Teletex}, api.Utf8},
			{equal, []int{api.Teletex, api.Utf8}, api.Teletex},
			{shorter, []int{api.Utf8, api.Teletex}, api.Teletex},
			{shorter, []int{api.Teletex, api.Utf8}, api.Teletex},
			{longer, []int{api.Utf8, api.Teletex}, api.Utf8},
			{longer, []int{api.Teletex, api.Utf8}, api.Utf8},
		} {
			if got, e := choose.Least(x.list, x.s); got != x.want || e != api.OK {
				t.Errorf("Least(%d, %d scalars) = %d, %d; want %d", x.list, len(x.s), got, e, x.want)
			}
		}
	}
}
