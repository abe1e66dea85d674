package compose_test

import (
	"slices"
	"testing"

	"sobriquet/api"
	"sobriquet/compose"
	"sobriquet/decomp"
	"sobriquet/order"
)

// tables is what the tables say of composition, number by number.
type tables struct {
	class map[int]int
	pairs map[[2]int]int
}

// classes returns the classes of the table Classes, mark by mark.
func classes() map[int]int {
	found := map[int]int{}
	for _, r := range api.Classes() {
		for c := r.From; c <= r.To; c++ {
			found[c] = r.Value
		}
	}
	return found
}

// addComposites adds the composites of the table Canon.
func (x tables) addComposites() {
	excluded := api.Excluded()
	for _, row := range api.Canon() {
		if row[2] != 0 && !slices.Contains(excluded, row[0]) && x.class[row[0]] == 0 && x.class[row[1]] == 0 {
			x.pairs[[2]int{row[1], row[2]}] = row[0]
		}
	}
}

// addSyllables adds the pairs of Hangul, whose syllables it counts one by one.
func (x tables) addSyllables() {
	syllable := 0xAC00
	for leading := 0x1100; leading <= 0x1112; leading++ {
		for vowel := 0x1161; vowel <= 0x1175; vowel++ {
			open := syllable
			x.pairs[[2]int{leading, vowel}] = open
			syllable++
			for trailing := 0x11A8; trailing <= 0x11C2; trailing++ {
				x.pairs[[2]int{open, trailing}] = syllable
				syllable++
			}
		}
	}
}

// newTables returns what the tables say.
func newTables() tables {
	x := tables{classes(), map[[2]int]int{}}
	x.addComposites()
	x.addSyllables()
	return x
}

// starter returns where the last number of class 0 of l stands; negative if there is none.
func (x tables) starter(l []int) int {
	at := len(l) - 1
	for at >= 0 && x.class[l[at]] != 0 {
		at--
	}
	return at
}

// built returns the list that composition of s builds: for each number the whole list is looked at again, as the chapter tells it.
func (x tables) built(s []int) []int {
	var l []int
	for _, c := range s {
		at := x.starter(l)
		if at < 0 {
			l = append(l, c)
			continue
		}
		last := x.class[l[len(l)-1]]
		blocked := at != len(l)-1 && (last == 0 || last >= x.class[c])
		composite, known := x.pairs[[2]int{l[at], c}]
		if known && !blocked {
			l[at] = composite
			continue
		}
		l = append(l, c)
	}
	return l
}

// mustBuildAsTold checks All for s against built.
func (x tables) mustBuildAsTold(t *testing.T, s ...int) {
	t.Helper()
	mustBuild(t, s, x.built(s)...)
}

// apart returns what s decomposes into, in canonical order.
func apart(s []int) []int {
	return order.Put(decomp.All(s, false))
}

// mustKeep checks the consequences for s: composition makes it no longer and, if it is in canonical order, keeps what it decomposes into.
func mustKeep(t *testing.T, s []int) {
	t.Helper()
	l := compose.All(s)
	if len(l) > len(s) {
		t.Errorf("All(%#x) = %#x, which is longer", s, l)
	}
	if !order.Is(s) {
		return
	}
	if got, want := apart(l), apart(s); !slices.Equal(got, want) {
		t.Errorf("%#x becomes %#x, which decomposes into %#x; want %#x", s, l, got, want)
	}
}

// eachList calls f with every list of so many numbers of a choice.
func eachList(choice, l []int, count int, f func([]int)) {
	if len(l) == count {
		f(l)
		return
	}
	for _, c := range choice {
		eachList(choice, append(l[:len(l):len(l)], c), count, f)
	}
}

// choices are few numbers each that compose and block each other in many ways.
func choices() [][]int {
	return [][]int{
		{0x41, 0x302, 0x301, 0x323, 0x334, 0x62},
		{0x45, 0x327, 0x323, 0x302, 0x300, 0x345},
		{0x1100, 0x1161, 0x11A8, 0xAC00, 0x301, 0x61},
		{0x41, 0xC2, 0x1EA0, 0x302, 0x301, -1},
		{0x391, 0x308, 0x301, 0x344, 0x3B9, 0x315},
		{0x30AB, 0x3099, 0x309A, 0x30CF, 0x334, 0x301},
		{0x5D9, 0x5B4, 0x915, 0x93C, 0x43, 0x327},
	}
}

// P10.1, P10.2: all lists of up to four numbers of a few, and of five.
func TestEveryShortList(t *testing.T) {
	x := newTables()
	for _, choice := range choices() {
		for count := range 5 {
			eachList(choice, nil, count, func(s []int) {
				x.mustBuildAsTold(t, s...)
				mustKeep(t, s)
			})
		}
	}
	eachList(choices()[0], nil, 5, func(s []int) {
		x.mustBuildAsTold(t, s...)
	})
}

// P10.1: every pair of numbers that occur in the table Canon; those with the same second number stand in one list, behind a space each.
func TestEveryPairOfCanon(t *testing.T) {
	x := newTables()
	var all []int
	for _, row := range api.Canon() {
		all = append(all, row[:]...)
	}
	slices.Sort(all)
	all = slices.Compact(all)
	for _, b := range all {
		var s []int
		for _, a := range all {
			s = append(s, 0x20, a, b)
		}
		x.mustBuildAsTold(t, s...)
	}
}

// P10.1: Two for every row of the table Canon, composed or not, and with what stands beside it.
func TestEveryRowOfCanon(t *testing.T) {
	x := newTables()
	for _, row := range api.Canon() {
		for shift := range 3 {
			a, b := row[1]+shift/2, row[2]+shift%2
			if want, known := x.pairs[[2]int{a, b}]; known {
				mustCompose(t, a, b, want)
			} else {
				mustNotCompose(t, a, b)
			}
		}
	}
}

// P10.1: Two and All compose every syllable of its letters, and a syllable with a trailing consonant takes no more.
func TestEverySyllable(t *testing.T) {
	x := newTables()
	for syllable := 0xAC00; syllable <= 0xD7A3; syllable++ {
		letters := decomp.One(syllable, false)
		mustBuild(t, letters, syllable)
		if (syllable-0xAC00)%28 == 0 {
			mustCompose(t, letters[0], letters[1], syllable)
		}
	}
	for leading := 0x10FF; leading <= 0x1114; leading++ {
		for vowel := 0x1160; vowel <= 0x1177; vowel++ {
			x.mustBuildAsTold(t, leading, vowel, 0x11A8, 0x11A8)
		}
	}
}

// P10.1: every mark between a letter and one that composes with it, so that it blocks or does not.
func TestEveryMarkBetween(t *testing.T) {
	x := newTables()
	for mark := range x.class {
		for _, last := range []int{0x301, 0x323, 0x327} {
			x.mustBuildAsTold(t, 0x61, mark, last)
			x.mustBuildAsTold(t, 0x65, mark, last, 0x302)
		}
		x.mustBuildAsTold(t, 0x30CF, mark, 0x3099)
		x.mustBuildAsTold(t, 0x1100, mark, 0x1161)
	}
}

// P10.1: every number up to U+33FF, and some of those far above and below, after a letter and ahead of a mark, in one list.
func TestEveryNumberBetween(t *testing.T) {
	x := newTables()
	numbers := noScalars()
	for c := -0x400; c < 0x3400; c++ {
		numbers = append(numbers, c)
	}
	for c := 0x3400; c <= api.MaxScalar+0x1000; c += 61 {
		numbers = append(numbers, c)
	}
	var s []int
	for _, c := range numbers {
		s = append(s, 0x41, c, 0x301)
	}
	x.mustBuildAsTold(t, s...)
}

// mixed returns count numbers in no order: letters, marks, and others, of which about every second one is a mark.
func mixed(count int) []int {
	choice := []int{
		0x41, 0x65, 0x6F, 0xC2, 0x1EA0, 0x3B9, 0x1100, 0x1161, 0x11A8, 0xAC00, 0x30CF, -1, 0xD800, 1 << 40, 0x34F, 0x344, 0x958, 0x20,
		0x300, 0x301, 0x302, 0x308, 0x323, 0x327, 0x328, 0x334, 0x345, 0x346, 0x301, 0x302, 0x323, 0x30C, 0x3099, 0x309A, 0x93C, 0x315,
	}
	l := make([]int, count)
	state := uint32(1)
	for i := range l {
		state = state*1664525 + 1013904223
		l[i] = choice[int(state>>8)%len(choice)]
	}
	return l
}

// P10.1, P10.2: lists in no order, of many lengths, and the same ones put in canonical order.
func TestMixedLists(t *testing.T) {
	x := newTables()
	s := mixed(60000)
	for from, count := 0, 0; from+count <= len(s); from, count = from+count, (count+7)%200 {
		piece := s[from : from+count]
		x.mustBuildAsTold(t, piece...)
		mustKeep(t, piece)
		x.mustBuildAsTold(t, order.Put(piece)...)
		mustKeep(t, order.Put(piece))
	}
	x.mustBuildAsTold(t, s...)
	mustKeep(t, order.Put(s))
}

// P10.2: what the tables decompose, alone and after a letter and a mark, is kept.
func TestDecompositionIsKept(t *testing.T) {
	for _, row := range api.Canon() {
		for _, s := range [][]int{
			{row[0]}, decomp.One(row[0], false), {row[0], 0x327, 0x323, 0x301}, {0x41, row[0]}, {0x41, row[0], 0x301}, {row[1], 0x334, row[2]},
		} {
			mustKeep(t, s)
			mustKeep(t, order.Put(s))
		}
	}
}

// P10.2: what is not excluded and begins with a letter is built again of what it decomposes into.
func TestCompositesAreBuiltAgain(t *testing.T) {
	x := newTables()
	for _, composite := range x.pairs {
		mustBuild(t, decomp.One(composite, false), composite)
	}
}
