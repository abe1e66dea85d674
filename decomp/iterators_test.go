package decomp

import (
	"slices"
	"testing"
)

// firstOf returns the first count numbers that the decomposer yields for s, and takes no further one.
func firstOf(s []int, compat bool, count int) []int {
	var l []int
	for c := range newDecomposer(compat).each(s) {
		l = append(l, c)
		if len(l) == count {
			break
		}
	}
	return l
}

// What is ranged over may be left at any number, however deep the decomposition stands that it comes from.
func TestRangesMayBeLeft(t *testing.T) {
	s := []int{0x41, 0x1EA4, 0xAC01, 0x385, 0xFB05, 0x42}
	want := []int{0x41, 0x41, 0x302, 0x301, 0x1100, 0x1161, 0x11A8, 0x20, 0x308, 0x301, 0x73, 0x74, 0x42}
	for count := 1; count <= len(want); count++ {
		if got := firstOf(s, true, count); !slices.Equal(got, want[:count]) {
			t.Errorf("the first %d numbers are %#x; want %#x", count, got, want[:count])
		}
	}
}

// Canonical decompositions inside compatible ones are taken apart too. The tables have none, so that one is made here.
func TestCanonicalInsideCompatible(t *testing.T) {
	for _, compat := range []bool{false, true} {
		d := newDecomposer(compat)
		d.found[0xF0000] = []int{0x28, 0x1EA4, 0xF0001}
		d.found[0xF0001] = []int{0xAC01, 0x2126}
		want := []int{0x28, 0x41, 0x302, 0x301, 0x1100, 0x1161, 0x11A8, 0x3A9}
		if got := slices.Collect(d.full(0xF0000)); !slices.Equal(got, want) {
			t.Errorf("full = %#x; want %#x", got, want)
		}
	}
}

// A decomposer answers alike when it is asked again, and each number is looked up once.
func TestDecomposerRemembers(t *testing.T) {
	for _, compat := range []bool{false, true} {
		d := newDecomposer(compat)
		s := []int{0x41, 0x2000, 0xFB05, 0x2000, 0xAC01, -1, 0x41}
		first := slices.Collect(d.each(s))
		known := len(d.found)
		if again := slices.Collect(d.each(s)); !slices.Equal(again, first) {
			t.Errorf("first %#x, again %#x", first, again)
		}
		if len(d.found) != known || known == 0 {
			t.Errorf("%d numbers are known; again %d", known, len(d.found))
		}
	}
}
