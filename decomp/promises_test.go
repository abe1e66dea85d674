package decomp_test

import (
	"maps"
	"slices"
	"testing"

	"sobriquet/api"
	"sobriquet/decomp"
)

// steps is what numbers become, in one step each.
type steps map[int][]int

// syllables returns the steps of the Hangul syllables, counted one by one.
func syllables() steps {
	found := steps{}
	for leading := 0x1100; leading <= 0x1112; leading++ {
		for vowel := 0x1161; vowel <= 0x1175; vowel++ {
			found[0xAC00+len(found)] = []int{leading, vowel}
			for trailing := 0x11A8; trailing <= 0x11C2; trailing++ {
				found[0xAC00+len(found)] = []int{leading, vowel, trailing}
			}
		}
	}
	return found
}

// canonical returns the steps of the table Canon.
func canonical() steps {
	found := steps{}
	for _, x := range api.Canon() {
		found[x[0]] = []int{x[1]}
		if x[2] != 0 {
			found[x[0]] = []int{x[1], x[2]}
		}
	}
	return found
}

// compatible returns the steps of the table Compat.
func compatible() steps {
	found := steps{}
	for _, m := range api.Compat() {
		found[m.From] = m.To
	}
	return found
}

// allSteps returns the steps with compatibility decompositions or without; a canonical one goes first.
func allSteps(compat bool) steps {
	found := steps{}
	if compat {
		maps.Copy(found, compatible())
	}
	maps.Copy(found, canonical())
	maps.Copy(found, syllables())
	return found
}

// once returns the numbers of s, each one a step further if it has a step, and whether one had.
func (x steps) once(s []int) ([]int, bool) {
	var l []int
	went := false
	for _, c := range s {
		parts, has := x[c]
		if !has {
			parts = []int{c}
		}
		l, went = append(l, parts...), went || has
	}
	return l, went
}

// full returns what the numbers of s become, step after step, until no number has one.
func (x steps) full(s []int) []int {
	for {
		l, went := x.once(s)
		if !went {
			return l
		}
		s = l
	}
}

// named returns the numbers that the tables name, with those beside them, and every Hangul syllable.
func named() []int {
	var l []int
	for _, found := range []steps{canonical(), compatible()} {
		for c, parts := range found {
			l = append(append(l, c-1, c, c+1), parts...)
		}
	}
	l = slices.AppendSeq(l, maps.Keys(syllables()))
	slices.Sort(l)
	return slices.Compact(l)
}

// sample returns numbers all over the scalars.
func sample() []int {
	var l []int
	for c := 0; c <= api.MaxScalar; c += 499 {
		l = append(l, c)
	}
	return l
}

// P8.1: every scalar that has a decomposition, with those beside it, every Hangul syllable, and other numbers; the numbers of all of them in one list.
func TestEveryDecomposition(t *testing.T) {
	numbers := slices.Concat(named(), sample(), noScalars())
	for _, compat := range []bool{false, true} {
		x := allSteps(compat)
		var each []int
		for _, c := range numbers {
			want := x.full([]int{c})
			if got := decomp.One(c, compat); !slices.Equal(got, want) {
				t.Errorf("One(%#x, %v) = %#x; want %#x", c, compat, got, want)
			}
			each = append(each, want...)
		}
		if !slices.Equal(decomp.All(numbers, compat), each) {
			t.Errorf("All of all numbers (compat: %v) is not the concatenation of the results of One", compat)
		}
	}
}

// P8.1: every scalar up to U+33FF, in a list.
func TestManyScalarsInAList(t *testing.T) {
	var s []int
	for c := range 0x3400 {
		s = append(s, c)
	}
	for _, compat := range []bool{false, true} {
		if !slices.Equal(decomp.All(s, compat), allSteps(compat).full(s)) {
			t.Errorf("All of the scalars up to U+33FF (compat: %v) is another list", compat)
		}
	}
}

// shapes counts the scalars by the kinds of the steps that their full decomposition takes: c a canonical one, k one of compatibility.
func shapes() map[string]int {
	canon, compat := canonical(), compatible()
	var path func(c int) string
	path = func(c int) string {
		parts, kind := canon[c], "c"
		if len(parts) == 0 {
			parts, kind = compat[c], "k"
		}
		if len(parts) == 0 {
			return ""
		}
		longest := ""
		for _, part := range parts {
			if p := path(part); len(p) > len(longest) {
				longest = p
			}
		}
		return kind + longest
	}
	found := map[string]int{}
	for c := range allSteps(true) {
		found[path(c)]++
	}
	return found
}

// The tables have decompositions of each kind inside their own kind, and of compatibility inside canonical ones, so that TestEveryDecomposition tries them.
func TestTablesHaveDecompositionsInside(t *testing.T) {
	found := shapes()
	for _, path := range []string{"c", "k", "cc", "kk", "ck"} {
		if found[path] == 0 {
			t.Errorf("no scalar takes the steps %s", path)
		}
	}
}

// mustBeFull checks that All leaves the result of All for s unchanged.
func mustBeFull(t *testing.T, s []int, compat bool) {
	t.Helper()
	l := decomp.All(s, compat)
	if again := decomp.All(l, compat); !slices.Equal(again, l) {
		t.Errorf("All(%#x, %v) = %#x; again %#x", s, compat, l, again)
	}
}

// P8.2: All leaves the result of All unchanged, for each number alone and for lists of them.
func TestAllOfAll(t *testing.T) {
	for _, compat := range []bool{false, true} {
		mustBeFull(t, nil, compat)
		for c := range allSteps(true) {
			mustBeFull(t, []int{c}, compat)
		}
		for l := range slices.Chunk(slices.Concat(named(), sample(), noScalars()), 1000) {
			mustBeFull(t, l, compat)
		}
	}
}

// P8.2: what compatibility decompositions leave has no canonical ones either; the canonical ones taken first change nothing.
func TestCanonicalAheadOfCompatible(t *testing.T) {
	for l := range slices.Chunk(named(), 1000) {
		want := decomp.All(l, true)
		if got := decomp.All(want, false); !slices.Equal(got, want) {
			t.Errorf("All(%#x, true) has canonical decompositions", l)
		}
		if got := decomp.All(decomp.All(l, false), true); !slices.Equal(got, want) {
			t.Errorf("All(%#x, true) is another one after All without them", l)
		}
	}
}
