package norm_test

import (
	"slices"
	"testing"

	"sobriquet/api"
	"sobriquet/norm"
)

// tables is what the tables say of the forms of one of the two ways, number by number.
type tables struct {
	compat bool
	parts  map[int][]int
	class  map[int]int
	pairs  map[[2]int]int
}

// addClasses adds the classes of the table Classes, mark by mark.
func (x tables) addClasses() {
	for _, r := range api.Classes() {
		for c := r.From; c <= r.To; c++ {
			x.class[c] = r.Value
		}
	}
}

// addCompat adds the compatibility decompositions.
func (x tables) addCompat() {
	for _, m := range api.Compat() {
		x.parts[m.From] = m.To
	}
}

// addCanon adds the canonical decompositions, which go ahead of those of compatibility, and their composites.
func (x tables) addCanon() {
	excluded := api.Excluded()
	for _, row := range api.Canon() {
		if row[2] == 0 {
			x.parts[row[0]] = []int{row[1]}
			continue
		}
		x.parts[row[0]] = []int{row[1], row[2]}
		if !slices.Contains(excluded, row[0]) && x.class[row[0]] == 0 && x.class[row[1]] == 0 {
			x.pairs[[2]int{row[1], row[2]}] = row[0]
		}
	}
}

// addSyllables adds the Hangul syllables, counted one by one.
func (x tables) addSyllables() {
	syllable := 0xAC00
	add := func(a, b int) {
		x.parts[syllable] = []int{a, b}
		x.pairs[[2]int{a, b}] = syllable
		syllable++
	}
	for leading := 0x1100; leading <= 0x1112; leading++ {
		for vowel := 0x1161; vowel <= 0x1175; vowel++ {
			open := syllable
			add(leading, vowel)
			for trailing := 0x11A8; trailing <= 0x11C2; trailing++ {
				add(open, trailing)
			}
		}
	}
}

// newTables returns what the tables say with compat or without.
func newTables(compat bool) tables {
	x := tables{compat, map[int][]int{}, map[int]int{}, map[[2]int]int{}}
	x.addClasses()
	if compat {
		x.addCompat()
	}
	x.addCanon()
	x.addSyllables()
	return x
}

// full returns what s becomes when each number is replaced by its parts until none has any.
func (x tables) full(s []int) []int {
	var l []int
	for _, c := range s {
		if parts := x.parts[c]; len(parts) > 0 {
			l = append(l, x.full(parts)...)
		} else {
			l = append(l, c)
		}
	}
	return l
}

// apart returns the full decomposition of s after all exchanges of neighbours of which the first one has the greater class and the second one a class other than 0.
func (x tables) apart(s []int) []int {
	l := x.full(s)
	for again := true; again; {
		again = false
		for i := 1; i < len(l); i++ {
			if a, b := x.class[l[i-1]], x.class[l[i]]; b != 0 && a > b {
				l[i-1], l[i] = l[i], l[i-1]
				again = true
			}
		}
	}
	return l
}

// takes reports where the last number of class 0 of l stands, and whether a number of this class is not blocked from it.
func (x tables) takes(l []int, class int) (int, bool) {
	at := len(l) - 1
	for at >= 0 && x.class[l[at]] != 0 {
		at--
	}
	return at, at >= 0 && (at == len(l)-1 || x.class[l[len(l)-1]] < class)
}

// form returns the composition of apart, for which the whole list is looked at again for each number.
func (x tables) form(s []int) []int {
	var l []int
	for _, c := range x.apart(s) {
		at, free := x.takes(l, x.class[c])
		if free {
			if composite, known := x.pairs[[2]int{l[at], c}]; known {
				l[at] = composite
				continue
			}
		}
		l = append(l, c)
	}
	return l
}

// slow returns the numbers for which Quick is false by the tables: those with parts, with a class, and second in a pair, the later letters of Hangul among them.
func (x tables) slow() map[int]bool {
	found := map[int]bool{}
	for c := range x.parts {
		found[c] = true
	}
	for c := range x.class {
		found[c] = true
	}
	for pair := range x.pairs {
		found[pair[1]] = true
	}
	return found
}

// mustBeAsTold checks Apart and Form of s against the tables, the consequences for them, and Same for s and what it becomes.
func (x tables) mustBeAsTold(t *testing.T, s []int) {
	t.Helper()
	apart, form := x.apart(s), x.form(s)
	mustBe(t, s, x.compat, apart, form)
	mustBe(t, form, x.compat, apart, form)
	if norm.Quick(s, x.compat) && !slices.Equal(form, s) {
		t.Errorf("Quick(%#x, %t) = true, but Form is %#x", s, x.compat, form)
	}
	if !norm.Same(s, form, x.compat) || !norm.Same(apart, s, x.compat) {
		t.Errorf("Same(%#x, its Form or Apart, %t) = false", s, x.compat)
	}
}

// bothWays calls f with the tables without compat and with compat.
func bothWays(f func(tables)) {
	f(newTables(false))
	f(newTables(true))
}

// eachList calls f with every list of so many numbers of a choice.
func eachList(choice, l []int, count int, f func([]int)) {
	if len(l) == count {
		f(l)
		return
	}
	for _, c := range choice {
		eachList(choice, append(l[:len(l):len(l)], c), count, f)
	}
}

// choices are few numbers each that decompose, change places, compose and block each other in many ways.
func choices() [][]int {
	return [][]int{
		{0x41, 0xC2, 0x302, 0x301, 0x323},
		{0x1EAC, 0x334, 0x327, 0x345, 0x62},
		{0x1100, 0x1161, 0x11A8, 0xAC00, 0xAC01},
		{0x3B9, 0x344, 0x385, 0x301, -1},
		{0xFF76, 0xFF9E, 0x30AB, 0x301, 0x3099},
		{0x958, 0x93C, 0x212B, 0x2000, 0xFB05},
		{0xB8, 0x63, 0x334, 0x300, 1 << 40},
	}
}

// P11.1, P11.2: all lists of up to three numbers of a few.
func TestEveryShortList(t *testing.T) {
	bothWays(func(x tables) {
		for _, choice := range choices() {
			for count := range 4 {
				eachList(choice, nil, count, func(s []int) { x.mustBeAsTold(t, s) })
			}
		}
	})
}

// P11.1: Same for all pairs of lists of two numbers of a few.
func TestSameOfEveryPair(t *testing.T) {
	choice := []int{0x41, 0x302, 0xC2, 0x323, 0x1EA0, 0xFF21}
	var all [][]int
	eachList(choice, nil, 2, func(s []int) { all = append(all, s) })
	bothWays(func(x tables) {
		for _, a := range all {
			for _, b := range all {
				if got, want := norm.Same(a, b, x.compat), slices.Equal(x.form(a), x.form(b)); got != want {
					t.Errorf("Same(%#x, %#x, %t) = %t", a, b, x.compat, got)
				}
			}
		}
	})
}

// named returns the numbers that the tables Canon and Compat decompose and those that they decompose them into, with those beside them.
func named() []int {
	var l []int
	x := newTables(true)
	for _, row := range api.Canon() {
		l = append(l, row[:]...)
	}
	for _, m := range api.Compat() {
		l = append(append(l, m.From), m.To...)
	}
	for c := range x.class {
		l = append(l, c)
	}
	for _, c := range slices.Clone(l) {
		l = append(l, c-1, c+1)
	}
	slices.Sort(l)
	return slices.Compact(l)
}

// P11.1, P11.2: every number that the tables name, alone and between a letter and two marks.
func TestEveryNumberOfTheTables(t *testing.T) {
	bothWays(func(x tables) {
		var all []int
		for _, c := range named() {
			mustBe(t, []int{c}, x.compat, x.apart([]int{c}), x.form([]int{c}))
			all = append(all, c, 0x61, 0x315, c, 0x323, 0x301)
		}
		x.mustBeAsTold(t, all)
	})
}

// P11.1, P11.2: every Hangul syllable, and every one without a trailing consonant with a trailing consonant behind it.
func TestEverySyllable(t *testing.T) {
	var s []int
	for c := 0xAC00 - 1; c <= 0xD7A3+1; c++ {
		s = append(s, c, 0x20, c, 0x11A8+c%27)
	}
	bothWays(func(x tables) { x.mustBeAsTold(t, s) })
}

// P11.1: Quick for every number that the tables name, the letters of Hangul with those beside them, every syllable, and numbers all over the scalars and outside.
func TestQuickOfEveryNumber(t *testing.T) {
	numbers := append(named(), noScalars()...)
	for c := 0x1000; c <= 0x1300; c++ {
		numbers = append(numbers, c)
	}
	for c := -0x100; c <= api.MaxScalar+0x100; c += 499 {
		numbers = append(numbers, c)
	}
	bothWays(func(x tables) {
		slow := x.slow()
		var others []int
		for _, c := range numbers {
			if !slow[c] {
				others = append(others, c)
			}
			if got := norm.Quick([]int{c}, x.compat); got == slow[c] {
				t.Errorf("Quick(%#x, %t) = %t", c, x.compat, got)
			}
		}
		mustBe(t, others, x.compat, others, others)
		if !norm.Quick(others, x.compat) {
			t.Errorf("Quick of all numbers that stay (compat: %t) is false", x.compat)
		}
	})
}

// mixed returns count numbers in no order: letters, marks, what decomposes, and others.
func mixed(count int) []int {
	choice := []int{
		0x41, 0x65, 0xC2, 0x1EA0, 0x1EAC, 0x3B9, 0x1100, 0x1161, 0x11A8, 0xAC00, 0xAC01, 0x30CF, 0xFF76, 0xFF9E, 0xFB01, 0x385, -1, 0xD800, 1 << 40, 0x34F, 0x958, 0x20,
		0x300, 0x301, 0x302, 0x308, 0x323, 0x327, 0x328, 0x334, 0x344, 0x345, 0x346, 0x301, 0x302, 0x323, 0x341, 0x3099, 0x309A, 0x93C, 0x315,
	}
	l := make([]int, count)
	state := uint32(1)
	for i := range l {
		state = state*1664525 + 1013904223
		l[i] = choice[int(state>>8)%len(choice)]
	}
	return l
}

// P11.1, P11.2: lists in no order, of many lengths.
func TestMixedLists(t *testing.T) {
	s := mixed(10000)
	bothWays(func(x tables) {
		for from, count := 0, 0; from+count <= len(s); from, count = from+count, (count+7)%300 {
			x.mustBeAsTold(t, s[from:from+count])
		}
		x.mustBeAsTold(t, s)
	})
}

// P11.2: Form with compat leaves nothing that Form without it would change.
func TestCompatFormIsAForm(t *testing.T) {
	for _, s := range append(lists(), named(), mixed(2000)) {
		l := norm.Form(s, true)
		if again := norm.Form(l, false); !slices.Equal(again, l) {
			t.Errorf("Form(%#x, true) = %#x; then without compat %#x", s, l, again)
		}
	}
}
