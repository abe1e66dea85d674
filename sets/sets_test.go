package sets_test

import (
	"bytes"
	"slices"
	"testing"

	"sobriquet/sets"
)

// ascending are byte strings in the order of the chapter, all different: prefixes, bytes on both sides of 80, and differences at the first byte, in the middle and at the end.
func ascending() [][]byte {
	return [][]byte{
		nil,
		{0x00},
		{0x00, 0x00},
		{0x00, 0x00, 0x00},
		{0x00, 0x01},
		{0x00, 0x80},
		{0x00, 0xFF, 0xFF},
		{0x01},
		{0x01, 0x00},
		{0x01, 0x00, 0x00},
		{0x01, 0x7F},
		{0x01, 0x80},
		{0x01, 0xFF},
		{0x02},
		{0x30, 0x03, 0x02, 0x01, 0x05},
		{0x30, 0x03, 0x02, 0x01, 0x80},
		{0x30, 0x03, 0x02, 0x01, 0xFF},
		{0x30, 0x03, 0x02, 0x02},
		{0x30, 0x04},
		{0x30, 0x81},
		{0x7F},
		{0x7F, 0xFF, 0xFF},
		{0x80},
		{0x80, 0x7F},
		{0x80, 0x80},
		{0x80, 0x80, 0x00},
		{0x81},
		{0xA0, 0x00},
		{0xFE, 0xFF},
		{0xFF},
		{0xFF, 0x00},
		{0xFF, 0x7F},
		{0xFF, 0xFF},
		bytes.Repeat([]byte{0xFF}, 300),
		append(bytes.Repeat([]byte{0xFF}, 300), 0x00),
		bytes.Repeat([]byte{0xFF}, 301),
	}
}

func mustCompare(t *testing.T, a, b []byte, want int) {
	t.Helper()
	if got := sets.Compare(a, b); got != want {
		t.Errorf("Compare(% X, % X) = %d; want %d", a, b, got, want)
	}
}

// P4.1: Compare, for each two of the byte strings.
func TestCompare(t *testing.T) {
	l := ascending()
	for i, a := range l {
		for j, b := range l {
			switch {
			case i < j:
				mustCompare(t, a, b, -1)
			case i > j:
				mustCompare(t, a, b, 1)
			default:
				mustCompare(t, a, bytes.Clone(b), 0)
			}
		}
	}
}

// P4.1: the first byte that differs decides, wherever it stands and whatever follows it; where none does, the length decides.
func TestTheFirstDifferenceDecides(t *testing.T) {
	const length = 40
	for at := range length {
		less, more := bytes.Repeat([]byte{0x55}, length), bytes.Repeat([]byte{0x55}, length)
		for _, pair := range [][2]byte{{0x00, 0x01}, {0x7F, 0x80}, {0x00, 0xFF}, {0x54, 0x56}} {
			less[at], more[at] = pair[0], pair[1]
			for i := at + 1; i < length; i++ {
				less[i], more[i] = 0xFF, 0x00
			}
			mustCompare(t, less, more, -1)
			mustCompare(t, more, less, 1)
			mustCompare(t, less, more[:at+1], -1)
			mustCompare(t, more[:at+1], less, 1)
			mustCompare(t, more[:at], more, -1)
			mustCompare(t, more, more[:at], 1)
		}
	}
}

// P4.1: an element is not the same as one to which zero bytes were added.
func TestZeroBytesCount(t *testing.T) {
	for length := range 20 {
		b := make([]byte, length)
		mustCompare(t, b, make([]byte, length), 0)
		mustCompare(t, b, make([]byte, length+1), -1)
		mustCompare(t, make([]byte, length+1), b, 1)
	}
	mustCompare(t, nil, []byte{}, 0)
	mustCompare(t, []byte{}, nil, 0)
	mustCompare(t, nil, nil, 0)
}

// P4.1: Sorted, for lists that are.
func TestSortedLists(t *testing.T) {
	full := ascending()
	for i := range full {
		for j := i; j <= len(full); j++ {
			if !sets.Sorted(full[i:j]) {
				t.Errorf("Sorted(% X) = false", full[i:j])
			}
		}
	}
	for _, l := range [][][]byte{
		nil, {}, {nil}, {nil, nil}, {nil, {}, nil}, {{0x01}},
		{{0x01}, {0x01}}, {{0xFF}, {0xFF}, {0xFF}},
		{nil, {0x01}, {0x01}, {0x01, 0x00}, {0x01, 0x00}, {0x7F}, {0x80}, {0x80}},
	} {
		if !sets.Sorted(l) {
			t.Errorf("Sorted(% X) = false", l)
		}
	}
}

// P4.1: Sorted, for lists that are not: at the beginning, in the middle or at the end.
func TestUnsortedLists(t *testing.T) {
	full := ascending()
	for i := range len(full) - 1 {
		l := slices.Clone(full)
		l[i], l[i+1] = l[i+1], l[i]
		if sets.Sorted(l) || sets.Sorted(l[i:]) || sets.Sorted(l[:i+2]) || sets.Sorted(l[i:i+2]) {
			t.Errorf("Sorted(% X) = true", l[i:i+2])
		}
	}
	for _, l := range [][][]byte{
		{{0x00}, nil}, {{0x00}, {}}, {{0x01, 0x00}, {0x01}}, {{0x80}, {0x7F}}, {{0x01}, {0x03}, {0x02}},
		{{0x01}, {0x01}, {0x00}}, {{0x02}, {0x01}, {0x02}}, {{0x01}, {0x03}, {0x02}, {0x04}},
	} {
		if sets.Sorted(l) {
			t.Errorf("Sorted(% X) = true", l)
		}
	}
}

// mustSort checks that Sort and Place return what is expected of l.
func mustSort(t *testing.T, l, want [][]byte, places []int) {
	t.Helper()
	if got := sets.Sort(l); !slices.EqualFunc(got, want, bytes.Equal) {
		t.Errorf("Sort(% X) = % X; want % X", l, got, want)
	}
	if got := sets.Place(l); !slices.Equal(got, places) {
		t.Errorf("Place(% X) = %v; want %v", l, got, places)
	}
}

// P4.1: Sort and Place, for ordinary lists and for those that the chapter's words single out.
func TestSortAndPlace(t *testing.T) {
	for _, c := range []struct {
		list, sorted [][]byte
		places       []int
	}{
		{nil, nil, nil},
		{[][]byte{}, nil, nil},
		{[][]byte{nil}, [][]byte{nil}, []int{0}},
		{[][]byte{{0x01}}, [][]byte{{0x01}}, []int{0}},
		{[][]byte{{0x01, 0x00}, {0x01}}, [][]byte{{0x01}, {0x01, 0x00}}, []int{1, 0}},
		{[][]byte{{0x80}, {0x7F}}, [][]byte{{0x7F}, {0x80}}, []int{1, 0}},
		{[][]byte{{0xFF}, {0x00}, {0x80}}, [][]byte{{0x00}, {0x80}, {0xFF}}, []int{1, 2, 0}},
		{[][]byte{{0x02}, {0x03}, {0x01}}, [][]byte{{0x01}, {0x02}, {0x03}}, []int{2, 0, 1}},
		{[][]byte{nil, {0x00}, {}, {0x00}, nil}, [][]byte{nil, nil, nil, {0x00}, {0x00}}, []int{0, 2, 4, 1, 3}},
		{[][]byte{{0x05}, {0x04}, {0x05}, {0x04}}, [][]byte{{0x04}, {0x04}, {0x05}, {0x05}}, []int{1, 3, 0, 2}},
		{[][]byte{{0x02}, {0x01, 0xFF}, {0x01}, {0x01}}, [][]byte{{0x01}, {0x01}, {0x01, 0xFF}, {0x02}}, []int{2, 3, 1, 0}},
		{
			[][]byte{{0x30, 0x02, 0x05, 0x00}, {0x04, 0x01, 0x09}, {0x30, 0x00}},
			[][]byte{{0x04, 0x01, 0x09}, {0x30, 0x00}, {0x30, 0x02, 0x05, 0x00}}, []int{1, 2, 0},
		},
	} {
		mustSort(t, c.list, c.sorted, c.places)
	}
}

// numbers returns the numbers from 0 on, so many of them.
func numbers(count int) []int {
	l := make([]int, count)
	for i := range l {
		l[i] = i
	}
	return l
}

// P4.1: lists that are sorted, and lists in reverse order.
func TestSortedAndReversedLists(t *testing.T) {
	full := ascending()
	for count := range len(full) + 1 {
		l, places := slices.Clone(full[:count]), numbers(count)
		mustSort(t, l, full[:count], places)
		slices.Reverse(l)
		slices.Reverse(places)
		mustSort(t, l, full[:count], places)
	}
}

// P4.1: equal elements stay, and their places are in the order of their indices.
func TestEqualElements(t *testing.T) {
	for _, b := range [][]byte{nil, {0x00}, {0xFF}, {0x01, 0x00}, bytes.Repeat([]byte{0x30}, 200)} {
		for count := range 100 {
			l := slices.Repeat([][]byte{b}, count)
			mustSort(t, l, l, numbers(count))
		}
	}
	// Two, three and more elements in turn, in lists of any length.
	for different := 2; different < 12; different++ {
		for count := range 150 {
			var l, sorted [][]byte
			var places []int
			for i := range count {
				l = append(l, []byte{0x80 - byte(i%different)})
			}
			for which := different - 1; which >= 0; which-- {
				for i := which; i < count; i += different {
					sorted = append(sorted, l[i])
					places = append(places, i)
				}
			}
			mustSort(t, l, sorted, places)
		}
	}
}
