package csets_test

import (
	"slices"
	"testing"

	"sobriquet/api"
	"sobriquet/csets"
	"sobriquet/ucd"
)

// position is a set and a place or a scalar of it.
type position struct{ set, number int }

// rowsByPlace returns the scalar of the first row of the table Codes for each position.
func rowsByPlace() map[position]int {
	rows := map[position]int{}
	for _, x := range api.Codes() {
		if _, known := rows[position{x.Set, x.Place}]; !known {
			rows[position{x.Set, x.Place}] = x.Scalar
		}
	}
	return rows
}

// rowsByScalar returns the place of the first row of the table Codes for each scalar of a set.
func rowsByScalar() map[position]int {
	rows := map[position]int{}
	for _, x := range api.Codes() {
		if _, known := rows[position{x.Set, x.Scalar}]; !known {
			rows[position{x.Set, x.Scalar}] = x.Place
		}
	}
	return rows
}

// span returns the numbers from first to last.
func span(first, last int) []int {
	var l []int
	for x := first; x <= last; x++ {
		l = append(l, x)
	}
	return l
}

// places are the numbers among which all positions are, and many that are none.
func places() []int {
	return slices.Concat(span(-0x40, 0x120), span(0x2400, 0x2580))
}

// numbers are the scalars of all sets with those beside them, and some that no set has.
func numbers() []int {
	l := slices.Concat(span(-0x40, 0x180), span(0x380, 0x460), span(0x5C0, 0x5F0), span(0x3030, 0x3100))
	for _, x := range api.Codes() {
		l = append(l, x.Scalar-1, x.Scalar, x.Scalar+1)
	}
	slices.Sort(l)
	return slices.Compact(l)
}

// P16.1: the positions of each set are as many as the table Codes has.
func TestCountsOfPositions(t *testing.T) {
	for set, want := range map[int]int{6: 94, 102: 88, 103: 53, 126: 61, 144: 91, 138: 27, 87: 169} {
		count := 0
		for _, place := range places() {
			if _, ok := csets.Get(set, place); ok {
				count++
			}
		}
		if count != want {
			t.Errorf("set %d has %d positions; want %d", set, count, want)
		}
	}
}

// P16.1: every position of every set against the table, with those that it does not have.
func TestEveryPosition(t *testing.T) {
	rows := rowsByPlace()
	for _, set := range append([]int{0, 1, 5, 7, 86, 88, 101, 104, -6, -87}, allSets...) {
		for _, place := range places() {
			if c, known := rows[position{set, place}]; known {
				mustGet(t, set, place, c)
			} else {
				mustNotGet(t, set, place)
			}
		}
	}
}

// P16.1: every scalar of every set against the table, with those that it does not have.
func TestEveryScalar(t *testing.T) {
	rows := rowsByScalar()
	for _, set := range append([]int{0, 5, 88}, allSets...) {
		for _, c := range numbers() {
			if place, known := rows[position{set, c}]; known {
				mustFind(t, set, c, place)
			} else {
				mustNotFind(t, set, c)
			}
		}
	}
}

// P16.2: Get returns c at the position that Find returns, and each position that Get knows is of a supported set.
func TestGetAtWhatFindReturns(t *testing.T) {
	for _, x := range api.Codes() {
		place, ok := csets.Find(x.Set, x.Scalar)
		if c, known := csets.Get(x.Set, place); !ok || !known || c != x.Scalar {
			t.Errorf("set %d: Get(Find(%#x)) = %#x, %t, %t", x.Set, x.Scalar, c, ok, known)
		}
	}
	for _, set := range allSets {
		for _, c := range numbers() {
			place, ok := csets.Find(set, c)
			if got, known := csets.Get(set, place); ok && (!known || got != c) {
				t.Errorf("set %d: Get(Find(%#x)) = %#x, %t", set, c, got, known)
			}
		}
	}
}

// P16.1: the final bytes against the tables Sets and Final.
func TestEveryFinal(t *testing.T) {
	for final := -0x1000; final <= 0x1000; final++ {
		for _, wide := range []bool{false, true} {
			want := 0
			for _, set := range append(api.Sets(), 103) {
				if want == 0 && final != 0 && api.Final(set) == final && (set == 87) == wide {
					want = set
				}
			}
			if want == 0 {
				mustNotName(t, final, wide)
			} else {
				mustName(t, final, wide, want)
			}
		}
	}
}

// P16.1: the marks against the table Accents.
func TestEveryMark(t *testing.T) {
	for place := -0x1000; place <= 0x1000; place++ {
		known := false
		for _, x := range api.Accents() {
			if x[0] == place && !known {
				known = true
				mustMark(t, place, x[1], x[2])
			}
		}
		if !known {
			mustNotMark(t, place)
		}
	}
}

// spelling is an accent's position and a letter or a space.
type spelling struct{ place, letter int }

// spellings returns how each scalar is denoted, found by trying each accent with a space, and then with each letter.
func spellings() map[int]spelling {
	found := map[int]spelling{}
	keep := func(c int, x spelling) {
		if _, known := found[c]; !known {
			found[c] = x
		}
	}
	for _, x := range api.Accents() {
		keep(x[2], spelling{x[0], 0x20})
	}
	for _, x := range api.Accents() {
		for letter := 0x41; letter <= 0x7A; letter++ {
			if c, takes := ucd.Pair(letter, x[1]); takes && (letter <= 0x5A || letter >= 0x61) {
				keep(c, spelling{x[0], letter})
			}
		}
	}
	return found
}

// P16.1: every scalar that an accent denotes, and many others, against all accents with all letters.
func TestEveryAccent(t *testing.T) {
	want := spellings()
	if len(want) != 13+165 {
		t.Errorf("%d scalars have an accent", len(want))
	}
	for _, c := range slices.Concat(numbers(), span(0x180, 0x380), span(0x1E00, 0x2000), span(0x2100, 0x2180)) {
		if x, known := want[c]; known {
			mustAccent(t, c, x.place, x.letter)
		} else {
			mustNotAccent(t, c)
		}
	}
	for c := 0x3400; c <= api.MaxScalar+0x300; c += 0x361 {
		mustNotAccent(t, c)
	}
	for _, x := range api.Canon() {
		if y, known := want[x[0]]; known {
			mustAccent(t, x[0], y.place, y.letter)
		} else {
			mustNotAccent(t, x[0])
		}
	}
}

// P16.1: what Accent returns is an accent of Mark, which denotes the scalar before a space or composes it with the letter.
func TestAccentAgainstMark(t *testing.T) {
	for c := range 0x380 {
		place, letter, ok := csets.Accent(c)
		if !ok {
			continue
		}
		mark, alone, known := csets.Mark(place)
		if !known {
			t.Errorf("Accent(%#x): no accent at %#x", c, place)
		}
		if letter == 0x20 {
			if alone != c {
				t.Errorf("Accent(%#x): %#x stands for %#x before a space", c, place, alone)
			}
			continue
		}
		if pair, _ := ucd.Pair(letter, mark); pair != c {
			t.Errorf("Accent(%#x): %#x and %#x compose %#x", c, letter, mark, pair)
		}
	}
}
