package fold_test

import (
	"slices"
	"testing"

	"sobriquet/api"
	"sobriquet/fold"
)

// foldings is what the table Folds says, scalar by scalar.
type foldings map[int][]int

// newFoldings returns what the table says.
func newFoldings() foldings {
	x := foldings{}
	for _, m := range api.Folds() {
		x[m.From] = m.To
	}
	return x
}

// one returns what c becomes by the table.
func (x foldings) one(c int) []int {
	if to, has := x[c]; has {
		return to
	}
	return []int{c}
}

// all returns what the numbers of s become by the table.
func (x foldings) all(s []int) []int {
	var l []int
	for _, c := range s {
		l = append(l, x.one(c)...)
	}
	return l
}

// named returns the scalars that the table folds and those that they become, with those beside them.
func named() []int {
	var l []int
	for from, to := range newFoldings() {
		l = append(append(l, from), to...)
	}
	for _, c := range slices.Clone(l) {
		l = append(l, c-1, c+1)
	}
	slices.Sort(l)
	return slices.Compact(l)
}

// sample returns numbers all over the scalars, and some outside on both sides.
func sample() []int {
	var l []int
	for c := -0x1000; c <= api.MaxScalar+0x1000; c += 499 {
		l = append(l, c)
	}
	return l
}

// The table has the foldings that the tests below go through, each scalar once.
func TestTableHasFoldings(t *testing.T) {
	rows := api.Folds()
	if x := newFoldings(); len(x) != len(rows) || len(x) < 200 {
		t.Errorf("%d rows for %d scalars", len(rows), len(x))
	}
}

// P12.1: every scalar that has a folding, alone and among others.
func TestEveryFolding(t *testing.T) {
	for _, m := range api.Folds() {
		mustFold(t, m.From, m.To...)
		mustFoldAll(t, []int{-1, m.From, m.From, 0xDF}, slices.Concat([]int{-1}, m.To, m.To, []int{0x73, 0x73})...)
	}
}

// P12.1: One for every number that the table names, those beside them, numbers all over the scalars, and others.
func TestOneOfManyNumbers(t *testing.T) {
	x := newFoldings()
	for _, c := range slices.Concat(named(), sample(), noScalars()) {
		if got, want := fold.One(c), x.one(c); !slices.Equal(got, want) {
			t.Errorf("One(%#x) = %#x; want %#x", c, got, want)
		}
	}
}

// P12.1: All for every scalar and numbers outside on both sides, in one list.
func TestAllOfEveryScalar(t *testing.T) {
	var s []int
	for c := -0x400; c <= api.MaxScalar+0x400; c++ {
		s = append(s, c)
	}
	if !slices.Equal(fold.All(s), newFoldings().all(s)) {
		t.Error("All of every scalar is another list")
	}
}

// P12.1: All returns the results of One, concatenated.
func TestAllIsOneAfterTheOther(t *testing.T) {
	for l := range slices.Chunk(slices.Concat(named(), sample(), noScalars(), named()), 97) {
		var each []int
		for _, c := range l {
			each = append(each, fold.One(c)...)
		}
		mustFoldAll(t, l, each...)
	}
}

// mixed returns count numbers in no order, of which many stand again and again.
func mixed(count int) []int {
	choice := slices.Concat(named(), noScalars(), []int{0x41, 0x41, 0xDF, 0xDF, 0xFB03, 0x20})
	l := make([]int, count)
	state := uint32(1)
	for i := range l {
		state = state*1664525 + 1013904223
		l[i] = choice[int(state>>8)%len(choice)]
	}
	return l
}

// P12.1: lists in no order, of many lengths.
func TestMixedLists(t *testing.T) {
	x, s := newFoldings(), mixed(10000)
	for from, count := 0, 0; from+count <= len(s); from, count = from+count, (count+7)%300 {
		l := s[from : from+count]
		mustFoldAll(t, l, x.all(l)...)
	}
	mustFoldAll(t, s, x.all(s)...)
}

// P12.1, R1: a long list of numbers in no order.
func TestLongList(t *testing.T) {
	s := mixed(1 << 20)
	if !slices.Equal(fold.All(s), newFoldings().all(s)) {
		t.Error("All of a long list is another list")
	}
}

// mustBeFolded checks that All leaves the result of All for s unchanged.
func mustBeFolded(t *testing.T, s []int) {
	t.Helper()
	l := fold.All(s)
	if again := fold.All(l); !slices.Equal(again, l) {
		t.Errorf("All(%#x) = %#x; again %#x", s, l, again)
	}
}

// P12.2: All leaves the result of All unchanged, for each number alone and for lists.
func TestAllOfAll(t *testing.T) {
	for c := range newFoldings() {
		mustBeFolded(t, []int{c})
	}
	for _, s := range lists() {
		mustBeFolded(t, s)
	}
	for l := range slices.Chunk(slices.Concat(named(), sample(), noScalars(), mixed(10000)), 1000) {
		mustBeFolded(t, l)
	}
}

// P12.2: nothing that a folding leaves has one of its own.
func TestFoldingsAreFolded(t *testing.T) {
	for c := range newFoldings() {
		for _, part := range fold.One(c) {
			mustStay(t, part)
		}
	}
}
