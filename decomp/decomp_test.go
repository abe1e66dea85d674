package decomp_test

import (
	"math"
	"slices"
	"sync"
	"testing"

	"sobriquet/api"
	"sobriquet/decomp"
)

// mustDecompose checks the full decomposition of c, by One and by All.
func mustDecompose(t *testing.T, c int, compat bool, want ...int) {
	t.Helper()
	if got := decomp.One(c, compat); !slices.Equal(got, want) {
		t.Errorf("One(%#x, %v) = %#x; want %#x", c, compat, got, want)
	}
	mustDecomposeAll(t, []int{c}, compat, want...)
}

// mustDecomposeAll checks the full decompositions of the numbers of s.
func mustDecomposeAll(t *testing.T, s []int, compat bool, want ...int) {
	t.Helper()
	if got := decomp.All(s, compat); !slices.Equal(got, want) {
		t.Errorf("All(%#x, %v) = %#x; want %#x", s, compat, got, want)
	}
}

// mustDecomposeAlike checks the full decomposition of c, which is the same with compatibility decompositions and without.
func mustDecomposeAlike(t *testing.T, c int, want ...int) {
	t.Helper()
	mustDecompose(t, c, false, want...)
	mustDecompose(t, c, true, want...)
}

// mustStay checks that c is its own full decomposition.
func mustStay(t *testing.T, c int) {
	t.Helper()
	mustDecomposeAlike(t, c, c)
}

// P8.1: canonical decompositions into two scalars and into one, of an excluded composite too.
func TestCanonical(t *testing.T) {
	mustDecomposeAlike(t, 0xC0, 0x41, 0x300)
	mustDecomposeAlike(t, 0xE7, 0x63, 0x327)
	mustDecomposeAlike(t, 0x30D1, 0x30CF, 0x309A)
	mustDecomposeAlike(t, 0x340, 0x300)
	mustDecomposeAlike(t, 0x37E, 0x3B)
	mustDecomposeAlike(t, 0x1FEF, 0x60)
	mustDecomposeAlike(t, 0x2126, 0x3A9)
	mustDecomposeAlike(t, 0x344, 0x308, 0x301)
	mustDecomposeAlike(t, 0x958, 0x915, 0x93C)
	mustDecomposeAlike(t, 0xFB2B, 0x5E9, 0x5C2)
}

// P8.1: canonical decompositions that decompose again.
func TestCanonicalMoreThanOnce(t *testing.T) {
	mustDecomposeAlike(t, 0x1EA4, 0x41, 0x302, 0x301)
	mustDecomposeAlike(t, 0x1EA6, 0x41, 0x302, 0x300)
	mustDecomposeAlike(t, 0x1EAC, 0x41, 0x323, 0x302)
	mustDecomposeAlike(t, 0x1ED9, 0x6F, 0x323, 0x302)
	mustDecomposeAlike(t, 0x390, 0x3B9, 0x308, 0x301)
	mustDecomposeAlike(t, 0x3B0, 0x3C5, 0x308, 0x301)
	mustDecomposeAlike(t, 0x212B, 0x41, 0x30A)
}

// mustBeCompatible checks that c is decomposed into want if compatibility decompositions are requested, and stays otherwise.
func mustBeCompatible(t *testing.T, c int, want ...int) {
	t.Helper()
	mustDecompose(t, c, true, want...)
	mustDecompose(t, c, false, c)
}

// P8.1: compatibility decompositions, which are made only if they are requested.
func TestCompatible(t *testing.T) {
	mustBeCompatible(t, 0xA0, 0x20)
	mustBeCompatible(t, 0xA8, 0x20, 0x308)
	mustBeCompatible(t, 0xB5, 0x3BC)
	mustBeCompatible(t, 0xBD, 0x31, 0x2044, 0x32)
	mustBeCompatible(t, 0x17F, 0x73)
	mustBeCompatible(t, 0x2003, 0x20)
	mustBeCompatible(t, 0x2026, 0x2E, 0x2E, 0x2E)
	mustBeCompatible(t, 0x2468, 0x39)
	mustBeCompatible(t, 0xFB03, 0x66, 0x66, 0x69)
	mustBeCompatible(t, 0xFF01, 0x21)
	mustBeCompatible(t, 0xFF5E, 0x7E)
	mustBeCompatible(t, 0xFF76, 0x30AB)
}

// P8.1: compatibility decompositions that decompose again, and one inside a canonical one.
func TestCompatibleMoreThanOnce(t *testing.T) {
	mustBeCompatible(t, 0x385, 0x20, 0x308, 0x301)
	mustBeCompatible(t, 0xFB05, 0x73, 0x74)
	mustDecompose(t, 0x2000, true, 0x20)
	mustDecompose(t, 0x2000, false, 0x2002)
	mustDecompose(t, 0x2001, true, 0x20)
	mustDecompose(t, 0x2001, false, 0x2003)
}

// P8.1: Hangul syllables of two letters and of three; the letters stay.
func TestHangul(t *testing.T) {
	mustDecomposeAlike(t, 0xAC00, 0x1100, 0x1161)
	mustDecomposeAlike(t, 0xAC01, 0x1100, 0x1161, 0x11A8)
	mustDecomposeAlike(t, 0xAC1B, 0x1100, 0x1161, 0x11C2)
	mustDecomposeAlike(t, 0xAC1C, 0x1100, 0x1162)
	mustDecomposeAlike(t, 0xD55C, 0x1112, 0x1161, 0x11AB)
	mustDecomposeAlike(t, 0xD788, 0x1112, 0x1175)
	mustDecomposeAlike(t, 0xD7A3, 0x1112, 0x1175, 0x11C2)
	for _, c := range []int{0xABFF, 0xD7A4, 0x1100, 0x1112, 0x1161, 0x1175, 0x11A7, 0x11A8, 0x11C2} {
		mustStay(t, c)
	}
}

// P8.1: scalars that have no decomposition.
func TestOtherScalars(t *testing.T) {
	for _, c := range []int{0, 1, 0x20, 0x2F, 0x41, 0x5A, 0x7A, 0x7F, 0xC6, 0xD8, 0xDF, 0x300, 0x301, 0x345, 0x3A9, 0x2010, 0x2044, 0x304B, 0x3099, 0x4E00, 0xD7FF, 0xE000, 0xFF00, 0xFF5F, 0xFFFD, 0xFFFF, 0x10000, 0x1F600, api.MaxScalar} {
		mustStay(t, c)
	}
}

// noScalars are numbers that are no scalars, among them those that are the same as one with a decomposition but for bits that a smaller number does not have.
func noScalars() []int {
	l := []int{
		math.MinInt, math.MinInt + 1, math.MinInt32, -1 << 40, -0xAC00, -0xC0, -2, -1,
		0xD800, 0xD801, 0xDBFF, 0xDC00, 0xDFFE, 0xDFFF,
		api.MaxScalar + 1, api.MaxScalar + 2, math.MaxInt32, math.MaxInt32 + 1, 1 << 40, 1 << 62, math.MaxInt - 1, math.MaxInt,
	}
	for _, c := range []int{0xC0, 0xFB01, 0x1EA4, 0x2000, 0xAC00, 0xD7A3} {
		for _, shift := range []int{21, 31, 32, 48, 62, 63} {
			l = append(l, c+1<<shift, c-1<<shift)
		}
	}
	return l
}

// P8.1, R1, R5: any number that is no scalar is its own full decomposition.
func TestNumbersThatAreNoScalars(t *testing.T) {
	for _, c := range noScalars() {
		mustStay(t, c)
	}
	mustDecomposeAll(t, noScalars(), false, noScalars()...)
	mustDecomposeAll(t, noScalars(), true, noScalars()...)
}

// P8.1: no numbers have no decompositions, whether the list is nil or empty.
func TestNothing(t *testing.T) {
	for _, s := range [][]int{nil, {}, make([]int, 0, 8)} {
		mustDecomposeAll(t, s, false)
		mustDecomposeAll(t, s, true)
	}
}

// P8.1: the decompositions of several numbers in their order; marks are not put in order, and nothing is composed.
func TestAll(t *testing.T) {
	mustDecomposeAll(t, []int{0xC0, 0x62}, false, 0x41, 0x300, 0x62)
	mustDecomposeAll(t, []int{0x62, 0xC0}, false, 0x62, 0x41, 0x300)
	mustDecomposeAll(t, []int{0xC0, 0xC0, 0xC0}, true, 0x41, 0x300, 0x41, 0x300, 0x41, 0x300)
	mustDecomposeAll(t, []int{0xE1, 0x323, 0x61, 0x301}, false, 0x61, 0x301, 0x323, 0x61, 0x301)
	mustDecomposeAll(t, []int{0x1100, 0x1161, 0xAC00, 0x11A8}, false, 0x1100, 0x1161, 0x1100, 0x1161, 0x11A8)
	mixed := []int{0xFB03, -1, 0xAC01, 0xFB05, 0x1EA4, 0xD800, 0x2000, 0xFB03, 1 << 40}
	mustDecomposeAll(t, mixed, false, 0xFB03, -1, 0x1100, 0x1161, 0x11A8, 0xFB05, 0x41, 0x302, 0x301, 0xD800, 0x2002, 0xFB03, 1<<40)
	mustDecomposeAll(t, mixed, true, 0x66, 0x66, 0x69, -1, 0x1100, 0x1161, 0x11A8, 0x73, 0x74, 0x41, 0x302, 0x301, 0xD800, 0x20, 0x66, 0x66, 0x69, 1<<40)
}

// P8.1, R1: a long text, in which few numbers stand again and again.
func TestLongText(t *testing.T) {
	const times = 100000
	s, want := slices.Repeat([]int{0x41, 0x385, 0xD7A3}, times), slices.Repeat([]int{0x41, 0x20, 0x308, 0x301, 0x1112, 0x1175, 0x11C2}, times)
	if got := decomp.All(s, true); !slices.Equal(got, want) {
		t.Errorf("%d numbers; want %d, or others", len(got), len(want))
	}
}

// spoil changes l, its spare capacity too.
func spoil(l []int) {
	full := l[:cap(l)]
	for i := range full {
		full[i] = 0xC0
	}
}

// R2: a result that is changed afterwards, its spare capacity too, changes neither another one nor a later one.
func TestResultsAreNewMemory(t *testing.T) {
	for _, compat := range []bool{false, true} {
		for _, c := range []int{-1, 0x41, 0xC0, 0x340, 0x1EA4, 0x2000, 0xFB05, 0xFB03, 0xAC00, 0xAC01, 1 << 40} {
			s := []int{c, c, 0x62}
			first, second := decomp.One(c, compat), decomp.One(c, compat)
			firstAll, secondAll := decomp.All(s, compat), decomp.All(s, compat)
			kept, keptAll := slices.Clone(first), slices.Clone(firstAll)
			spoil(first)
			spoil(firstAll)
			if !slices.Equal(second, kept) || !slices.Equal(secondAll, keptAll) {
				t.Errorf("%#x: two results share memory", c)
			}
			if !slices.Equal(s, []int{c, c, 0x62}) {
				t.Errorf("%#x: a result shares memory with the argument", c)
			}
			mustDecompose(t, c, compat, kept...)
			mustDecomposeAll(t, s, compat, keptAll...)
		}
	}
}

// R2, R6: the argument stays as it is, with what stands behind its length, which is not read either; a result stays when the argument is changed afterwards.
func TestArgumentStays(t *testing.T) {
	for _, compat := range []bool{false, true} {
		for _, s := range [][]int{{}, {0x41}, {0x41, 0x42}, {0xC0, 0xFB03}, {0xAC01, 0x2000, 0xD800}, {-1, 1 << 40}} {
			whole := append(slices.Clone(s), 0x1EA4, 0xFB05, 0xD7A3)
			kept := slices.Clone(whole)
			want := decomp.All(slices.Clone(s), compat)
			got := decomp.All(whole[:len(s)], compat)
			if !slices.Equal(whole, kept) {
				t.Errorf("All changed %#x into %#x", kept, whole)
			}
			spoil(whole)
			if !slices.Equal(got, want) {
				t.Errorf("All(%#x, %v) = %#x; want %#x", s, compat, got, want)
			}
		}
	}
}

// R3: a call with compatibility decompositions does not change what a call without them returns, nor the other way about.
func TestCallsInTurn(t *testing.T) {
	for range 3 {
		mustDecompose(t, 0xFB05, false, 0xFB05)
		mustDecompose(t, 0xFB05, true, 0x73, 0x74)
		mustDecompose(t, 0x2000, true, 0x20)
		mustDecompose(t, 0x2000, false, 0x2002)
	}
}

// R3: calls from several goroutines at once do not disturb each other.
func TestCallsAtOnce(t *testing.T) {
	var group sync.WaitGroup
	for range 8 {
		group.Go(func() {
			for range 50 {
				mustDecompose(t, 0x1EA4, false, 0x41, 0x302, 0x301)
				mustDecompose(t, 0xFB05, true, 0x73, 0x74)
				mustDecomposeAll(t, []int{0x2000, 0xAC00, 0x2000}, true, 0x20, 0x1100, 0x1161, 0x20)
				mustDecomposeAll(t, []int{0x2000, 0xAC00, 0x2000}, false, 0x2002, 0x1100, 0x1161, 0x2002)
			}
		})
	}
	group.Wait()
}
