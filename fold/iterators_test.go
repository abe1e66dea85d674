package fold

import (
	"slices"
	"testing"

	"sobriquet/api"
)

// firstOf returns the first count numbers that the folder yields for s, and takes no further one.
func firstOf(s []int, count int) []int {
	var l []int
	for c := range newFolder().each(s) {
		l = append(l, c)
		if len(l) == count {
			break
		}
	}
	return l
}

// What is ranged over may be left at any number, in the middle of a folding too.
func TestRangesMayBeLeft(t *testing.T) {
	s := []int{0x61, 0x41, 0xFB03, -1, 0xDF, 0xFB03, 0x42}
	want := []int{0x61, 0x61, 0x66, 0x66, 0x69, -1, 0x73, 0x73, 0x66, 0x66, 0x69, 0x62}
	for count := 1; count <= len(want); count++ {
		if got := firstOf(s, count); !slices.Equal(got, want[:count]) {
			t.Errorf("the first %d numbers are %#x; want %#x", count, got, want[:count])
		}
	}
}

// asked counts the scalars for which the folder has asked One.
func asked(f folder) int {
	count := 0
	for _, folding := range f {
		if len(folding) > 0 {
			count++
		}
	}
	return count
}

// A folder asks One for scalars that the table names only, for each of them once, and answers alike when it is asked again.
func TestFolderRemembers(t *testing.T) {
	f, s := newFolder(), []int{0x41, 0x61, -1, 0xDF, 0x41, 1 << 40, 0xDF}
	first := slices.Collect(f.each(s))
	if asked(f) != 2 || len(f) != len(api.Folds()) {
		t.Errorf("One was asked for %d of %d scalars", asked(f), len(f))
	}
	f[0x41] = []int{0x78, 0x79}
	again := slices.Collect(f.each(s))
	if want := []int{0x78, 0x79, 0x61, -1, 0x73, 0x73, 0x78, 0x79, 1 << 40, 0x73, 0x73}; !slices.Equal(again, want) {
		t.Errorf("first %#x, again %#x; want %#x", first, again, want)
	}
}
