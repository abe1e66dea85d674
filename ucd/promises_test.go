package ucd_test

import (
	"math"
	"slices"
	"testing"

	"sobriquet/api"
	"sobriquet/ucd"
)

// noScalars are numbers that are no scalars, those beside the scalars among them.
func noScalars() []int {
	return []int{
		math.MinInt, math.MinInt + 1, -1 << 40, math.MinInt32, -api.MaxScalar, -0xC0, -0x41, -2, -1,
		0xD800, 0xD801, 0xDBFF, 0xDC00, 0xDFFE, 0xDFFF,
		api.MaxScalar + 1, api.MaxScalar + 2, api.MaxScalar + 1 + 0x41, math.MaxInt32, 1 << 32, 1<<32 + 0xC0, 1 << 40, math.MaxInt - 1, math.MaxInt,
	}
}

// rangeTables are the tables of ranges.
func rangeTables() [][]api.Range {
	return [][]api.Range{api.Classes(), api.Assigned(), api.Nothing(), api.Spaces(), api.Prohibited()}
}

// decomposed returns what each scalar of the table Canon consists of.
func decomposed() map[int][]int {
	found := map[int][]int{}
	for _, x := range api.Canon() {
		found[x[0]] = []int{x[1]}
		if x[2] != 0 {
			found[x[0]] = []int{x[1], x[2]}
		}
	}
	return found
}

// mapped returns what each scalar of a table becomes.
func mapped(l []api.Map) map[int][]int {
	found := map[int][]int{}
	for _, m := range l {
		found[m.From] = m.To
	}
	return found
}

// numbers returns each number that a table names, those beside it, the edges of the scalars, and some others.
func numbers() []int {
	var named []int
	for _, l := range rangeTables() {
		for _, r := range l {
			named = append(named, r.From, (r.From+r.To)/2, r.To)
		}
	}
	for _, x := range api.Canon() {
		named = append(named, x[:]...)
	}
	for _, m := range slices.Concat(api.Compat(), api.Folds()) {
		named = append(append(named, m.From), m.To...)
	}
	named = append(named, api.Excluded()...)
	l := slices.Concat(noScalars(), named)
	for _, c := range named {
		l = append(l, c-1, c+1)
	}
	for c := 0; c <= api.MaxScalar; c += 1009 {
		l = append(l, c)
	}
	slices.Sort(l)
	return slices.Compact(l)
}

// P6.1: every number around the scalars.
func TestScalar(t *testing.T) {
	for c := -api.MaxScalar; c <= 3*api.MaxScalar; c++ {
		want := 0 <= c && c < 0xD800 || 0xDFFF < c && c <= 0x10FFFF
		if ucd.Scalar(c) != want {
			t.Fatalf("Scalar(%#x) = %v", c, !want)
		}
	}
	for _, c := range []int{0, 0x41, 0xD7FF, 0xE000, 0xFFFE, 0xFFFF, 0x10000, 0x10FFFE, api.MaxScalar} {
		if !ucd.Scalar(c) {
			t.Errorf("%#x is no scalar", c)
		}
	}
}

// P6.1, R1: a number that is no scalar has none of the properties.
func TestNumbersThatAreNoScalars(t *testing.T) {
	for _, c := range noScalars() {
		if ucd.Scalar(c) || ucd.Class(c) != 0 || ucd.Assigned(c) || ucd.Nothing(c) || ucd.Space(c) || ucd.Prohibited(c) {
			t.Errorf("%#x is a scalar, or has a class, or is in a table of ranges", c)
		}
		if len(ucd.Canon(c))+len(ucd.Compat(c))+len(ucd.Fold(c)) > 0 {
			t.Errorf("%#x becomes something", c)
		}
		for _, other := range []int{c, 0, 0x41, 0x300, 0x30AB, 0x3099} {
			mustNotPair(t, c, other)
			mustNotPair(t, other, c)
		}
	}
}

// P6.1: combining classes.
func TestClass(t *testing.T) {
	want := map[int]int{}
	for _, r := range api.Classes() {
		for c := r.From; c <= r.To; c++ {
			want[c] = r.Value
		}
	}
	for _, c := range numbers() {
		if got := ucd.Class(c); got != want[c] {
			t.Errorf("Class(%#x) = %d; want %d", c, got, want[c])
		}
	}
	for _, x := range [][2]int{{0x41, 0}, {0x2FF, 0}, {0x300, 230}, {0x314, 230}, {0x315, 232}, {0x316, 220}, {0x31A, 0}, {0x31B, 216}, {0x344, 230}, {0x345, 240}, {0x34A, 0}, {0x5B4, 14}, {0x93C, 7}, {0x3099, 8}, {0x309A, 8}, {0x309B, 0}, {0xFE23, 230}, {0xFE24, 0}} {
		if got := ucd.Class(x[0]); got != x[1] {
			t.Errorf("Class(%#x) = %d; want %d", x[0], got, x[1])
		}
	}
}

// mustContain checks that is reports the numbers of the ranges of l, and no others.
func mustContain(t *testing.T, is func(int) bool, l []api.Range) {
	t.Helper()
	want := map[int]bool{}
	for _, r := range l {
		for c := r.From; c <= r.To; c++ {
			want[c] = true
		}
	}
	for _, c := range numbers() {
		if is(c) != want[c] {
			t.Errorf("%#x: %v; want %v", c, is(c), want[c])
		}
	}
	for c := 0; c < 0x3100; c++ {
		if is(c) != want[c] {
			t.Errorf("%#x: %v; want %v", c, is(c), want[c])
		}
	}
}

// P6.1: the properties of ranges.
func TestPropertiesOfRanges(t *testing.T) {
	mustContain(t, ucd.Assigned, api.Assigned())
	mustContain(t, ucd.Nothing, api.Nothing())
	mustContain(t, ucd.Space, api.Spaces())
	mustContain(t, ucd.Prohibited, api.Prohibited())
	for _, x := range []struct {
		c                                    int
		assigned, nothing, space, prohibited bool
	}{
		{0, true, true, false, false},
		{8, true, true, false, false},
		{9, true, false, true, false},
		{0x20, true, false, false, false},
		{0x41, true, false, false, false},
		{0xA0, true, false, true, false},
		{0xAD, true, true, false, false},
		{0x221, false, false, false, false},
		{0x340, true, false, false, true},
		{0x2000, true, false, true, false},
		{0x200B, true, true, false, false},
		{0xD7A3, true, false, false, false},
		{0xD7A4, false, false, false, false},
		{0xE000, true, false, false, true},
		{0xFFFD, true, false, false, true},
		{0xFFFE, false, false, false, false},
		{0x10FFFD, true, false, false, true},
		{0x10FFFE, false, false, false, false},
	} {
		if ucd.Assigned(x.c) != x.assigned || ucd.Nothing(x.c) != x.nothing || ucd.Space(x.c) != x.space || ucd.Prohibited(x.c) != x.prohibited {
			t.Errorf("%#x has other properties than %v", x.c, x)
		}
	}
}

// mustBecome checks what f returns for c.
func mustBecome(t *testing.T, f func(int) []int, c int, want []int) {
	t.Helper()
	if got := f(c); !slices.Equal(got, want) {
		t.Errorf("%#x becomes %#x; want %#x", c, got, want)
	}
}

// P6.1: what numbers become.
func TestWhatNumbersBecome(t *testing.T) {
	canon, compat, folds := decomposed(), mapped(api.Compat()), mapped(api.Folds())
	for _, c := range numbers() {
		mustBecome(t, ucd.Canon, c, canon[c])
		mustBecome(t, ucd.Compat, c, compat[c])
		mustBecome(t, ucd.Fold, c, folds[c])
	}
}

// P6.1: canonical decompositions, of one scalar and of an excluded composite too.
func TestCanon(t *testing.T) {
	mustBecome(t, ucd.Canon, 0xC0, []int{0x41, 0x300})
	mustBecome(t, ucd.Canon, 0x1EA4, []int{0xC2, 0x301})
	mustBecome(t, ucd.Canon, 0x30D1, []int{0x30CF, 0x309A})
	mustBecome(t, ucd.Canon, 0x340, []int{0x300})
	mustBecome(t, ucd.Canon, 0x212B, []int{0xC5})
	mustBecome(t, ucd.Canon, 0x2000, []int{0x2002})
	mustBecome(t, ucd.Canon, 0x344, []int{0x308, 0x301})
	mustBecome(t, ucd.Canon, 0xFB2B, []int{0x5E9, 0x5C2})
	for _, c := range []int{0, 0x41, 0x300, 0x2002, 0xAC00, 0xFB01} {
		mustBecome(t, ucd.Canon, c, nil)
	}
}

// P6.1: compatibility decompositions.
func TestCompat(t *testing.T) {
	mustBecome(t, ucd.Compat, 0xA0, []int{0x20})
	mustBecome(t, ucd.Compat, 0xA8, []int{0x20, 0x308})
	mustBecome(t, ucd.Compat, 0x385, []int{0xA8, 0x301})
	mustBecome(t, ucd.Compat, 0x2026, []int{0x2E, 0x2E, 0x2E})
	mustBecome(t, ucd.Compat, 0xFB05, []int{0x17F, 0x74})
	mustBecome(t, ucd.Compat, 0xFF01, []int{0x21})
	mustBecome(t, ucd.Compat, 0xFF5E, []int{0x7E})
	mustBecome(t, ucd.Compat, 0x2468, []int{0x39})
	for _, c := range []int{0, 0x20, 0x41, 0xC0, 0x2000, 0x2469, 0xFF00, 0xFF5F} {
		mustBecome(t, ucd.Compat, c, nil)
	}
}

// P6.1: case foldings.
func TestFold(t *testing.T) {
	mustBecome(t, ucd.Fold, 0x41, []int{0x61})
	mustBecome(t, ucd.Fold, 0x5A, []int{0x7A})
	mustBecome(t, ucd.Fold, 0xDF, []int{0x73, 0x73})
	mustBecome(t, ucd.Fold, 0x130, []int{0x69, 0x307})
	mustBecome(t, ucd.Fold, 0x3A3, []int{0x3C3})
	mustBecome(t, ucd.Fold, 0x3C2, []int{0x3C3})
	mustBecome(t, ucd.Fold, 0x40F, []int{0x45F})
	mustBecome(t, ucd.Fold, 0xFB03, []int{0x66, 0x66, 0x69})
	mustBecome(t, ucd.Fold, 0xFF3A, []int{0xFF5A})
	for _, c := range []int{0, 0x40, 0x5B, 0x61, 0x307, 0x3C3, 0xFF3B} {
		mustBecome(t, ucd.Fold, c, nil)
	}
}

// mustPair checks that a and b compose want.
func mustPair(t *testing.T, a, b, want int) {
	t.Helper()
	if got, is := ucd.Pair(a, b); got != want || !is {
		t.Errorf("Pair(%#x, %#x) = %#x, %v; want %#x", a, b, got, is, want)
	}
}

// mustNotPair checks that a and b compose nothing, and R4: beside false the other result is 0.
func mustNotPair(t *testing.T, a, b int) {
	t.Helper()
	if got, is := ucd.Pair(a, b); got != 0 || is {
		t.Errorf("Pair(%#x, %#x) = %#x, %v", a, b, got, is)
	}
}

// P6.1: pairs that are composed.
func TestPairs(t *testing.T) {
	mustPair(t, 0x41, 0x300, 0xC0)
	mustPair(t, 0x41, 0x301, 0xC1)
	mustPair(t, 0x61, 0x302, 0xE2)
	mustPair(t, 0xC2, 0x301, 0x1EA4)
	mustPair(t, 0x1EA0, 0x302, 0x1EAC)
	mustPair(t, 0x3CB, 0x301, 0x3B0)
	mustPair(t, 0x418, 0x306, 0x419)
	mustPair(t, 0x30AB, 0x3099, 0x30AC)
	mustPair(t, 0x306F, 0x309A, 0x3071)
}

// P6.1: pairs that are not composed.
func TestPairsThatAreNone(t *testing.T) {
	// In no entry, the wrong way round, or only one of the two.
	for _, x := range [][2]int{{0x51, 0x300}, {0x41, 0x41}, {0x300, 0x41}, {0x300, 0x300}, {0x301, 0xC2}, {0x41, 0x345}, {0, 0}, {0x41, 0}, {0, 0x300}, {0x1100, 0x1161}, {0xC0, 0xC0}} {
		mustNotPair(t, x[0], x[1])
	}
	// What an excluded composite consists of; the first one and the composite have a Class, too, in the first one of them.
	for _, x := range [][2]int{{0x308, 0x301}, {0x915, 0x93C}, {0x916, 0x93C}, {0x5D9, 0x5B4}, {0x5E9, 0x5C1}, {0x5E9, 0x5C2}} {
		mustNotPair(t, x[0], x[1])
	}
	// What a scalar alone consists of is no pair with 0; the first three of them have a Class.
	for _, a := range []int{0x300, 0x301, 0x313, 0x2B9, 0x3B, 0xB7, 0x60, 0x2002, 0x2003, 0x3A9, 0x4B, 0xC5} {
		mustNotPair(t, a, 0)
		mustNotPair(t, a, a)
		mustNotPair(t, 0, a)
	}
}

// candidates returns the scalars that Pair may return for a and b by the words of the chapter.
func candidates(a, b int) []int {
	var l []int
	for _, x := range api.Canon() {
		two := x[1] == a && x[2] == b && b != 0
		if two && !slices.Contains(api.Excluded(), x[0]) && ucd.Class(x[0]) == 0 && ucd.Class(a) == 0 {
			l = append(l, x[0])
		}
	}
	return l
}

// P6.1, P6.2: all pairs of scalars that are in a decomposition, of which none has two candidates.
func TestPairHasOneCandidate(t *testing.T) {
	first, second := []int{0}, []int{0}
	for _, x := range api.Canon() {
		first, second = append(first, x[1], x[0]), append(second, x[2])
	}
	slices.Sort(first)
	slices.Sort(second)
	composed := 0
	for _, a := range slices.Compact(first) {
		for _, b := range slices.Compact(second) {
			l := candidates(a, b)
			switch {
			case len(l) > 1:
				t.Errorf("%#x and %#x have the candidates %#x", a, b, l)
			case len(l) == 1:
				composed++
				mustPair(t, a, b, l[0])
				mustBecome(t, ucd.Canon, l[0], []int{a, b})
			default:
				mustNotPair(t, a, b)
			}
		}
	}
	if composed < 200 {
		t.Errorf("only %d pairs", composed)
	}
}

// P6.1, P6.2: each decomposition of two scalars is composed again, unless its composite is excluded; each one of a single scalar is not.
func TestDecompositionsAreComposed(t *testing.T) {
	for c, parts := range decomposed() {
		switch {
		case len(parts) == 1:
			mustNotPair(t, parts[0], 0)
		case slices.Contains(api.Excluded(), c) || ucd.Class(c) != 0 || ucd.Class(parts[0]) != 0:
			mustNotPair(t, parts[0], parts[1])
		default:
			mustPair(t, parts[0], parts[1], c)
			mustNotPair(t, parts[1], parts[0])
		}
	}
}
