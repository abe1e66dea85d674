package norm_test

import (
	"math"
	"slices"
	"sync"
	"testing"

	"sobriquet/api"
	"sobriquet/norm"
)

// mustBe checks Apart and Form of s, in one of the two ways.
func mustBe(t *testing.T, s []int, compat bool, apart, form []int) {
	t.Helper()
	if got := norm.Apart(s, compat); !slices.Equal(got, apart) {
		t.Errorf("Apart(%#x, %t) = %#x; want %#x", s, compat, got, apart)
	}
	if got := norm.Form(s, compat); !slices.Equal(got, form) {
		t.Errorf("Form(%#x, %t) = %#x; want %#x", s, compat, got, form)
	}
}

// mustBeAlike checks Apart and Form of s, which are the same with compat and without.
func mustBeAlike(t *testing.T, s, apart, form []int) {
	t.Helper()
	mustBe(t, s, false, apart, form)
	mustBe(t, s, true, apart, form)
}

// mustStay checks that s is what Apart and Form return for it, with compat and without.
func mustStay(t *testing.T, s ...int) {
	t.Helper()
	mustBeAlike(t, s, s, s)
}

// P11.1: the example of the chapter.
func TestExample(t *testing.T) {
	mustBe(t, []int{0xFB01}, true, []int{0x66, 0x69}, []int{0x66, 0x69})
}

// P11.1: the empty list, whether it is nil or not.
func TestNothing(t *testing.T) {
	for _, s := range [][]int{nil, {}, make([]int, 0, 8)} {
		mustStay(t, s...)
		mustBeQuick(t, s...)
		for _, compat := range []bool{false, true} {
			if !norm.Same(s, nil, compat) || !norm.Same([]int{}, s, compat) || norm.Same(s, []int{0}, compat) || norm.Same([]int{0x41}, s, compat) {
				t.Errorf("Same is wrong about the empty list (compat: %t)", compat)
			}
		}
	}
}

// P11.1: numbers that have no decomposition and do not compose.
func TestNumbersThatStay(t *testing.T) {
	mustStay(t, 0)
	mustStay(t, 0x61, 0x62, 0x63)
	mustStay(t, 0xC6, 0xDF, 0x4E00, 0x10300, api.MaxScalar)
	mustStay(t, 0x301)
	mustStay(t, 0x62, 0x301)
	mustStay(t, 0x61, 0x324, 0x345)
	mustStay(t, 0x34F, 0x301)
	mustStay(t, 0x61, 0x62, 0x302)
}

// P11.1: canonical decompositions of two scalars are composed again, with compat and without.
func TestCanonical(t *testing.T) {
	mustBeAlike(t, []int{0xC0}, []int{0x41, 0x300}, []int{0xC0})
	mustBeAlike(t, []int{0x41, 0x300}, []int{0x41, 0x300}, []int{0xC0})
	mustBeAlike(t, []int{0xE7, 0x439}, []int{0x63, 0x327, 0x438, 0x306}, []int{0xE7, 0x439})
	mustBeAlike(t, []int{0x30D1}, []int{0x30CF, 0x309A}, []int{0x30D1})
	mustBeAlike(t, []int{0x30CF, 0x3099}, []int{0x30CF, 0x3099}, []int{0x30D0})
}

// P11.1: a canonical decomposition into one scalar is not composed again.
func TestOneScalarAlone(t *testing.T) {
	mustBeAlike(t, []int{0x2126}, []int{0x3A9}, []int{0x3A9})
	mustBeAlike(t, []int{0x212A}, []int{0x4B}, []int{0x4B})
	mustBeAlike(t, []int{0x340}, []int{0x300}, []int{0x300})
	mustBeAlike(t, []int{0x37E}, []int{0x3B}, []int{0x3B})
	mustBeAlike(t, []int{0x1FEF}, []int{0x60}, []int{0x60})
	mustBeAlike(t, []int{0x41, 0x341}, []int{0x41, 0x301}, []int{0xC1})
}

// P11.1: a canonical decomposition whose scalars decompose too.
func TestCanonicalInsideCanonical(t *testing.T) {
	mustBeAlike(t, []int{0x212B}, []int{0x41, 0x30A}, []int{0xC5})
	mustBeAlike(t, []int{0x1EA4}, []int{0x41, 0x302, 0x301}, []int{0x1EA4})
	mustBeAlike(t, []int{0x390}, []int{0x3B9, 0x308, 0x301}, []int{0x390})
	mustBeAlike(t, []int{0xC2, 0x301}, []int{0x41, 0x302, 0x301}, []int{0x1EA4})
	mustBeAlike(t, []int{0x1EAC, 0x315, 0x301}, []int{0x41, 0x323, 0x302, 0x301, 0x315}, []int{0x1EAC, 0x301, 0x315})
}

// mustBeCompatible checks that s stays without compat, and what it becomes with compat.
func mustBeCompatible(t *testing.T, s, apart, form []int) {
	t.Helper()
	mustBe(t, s, false, s, s)
	mustBe(t, s, true, apart, form)
}

// P11.1: compatibility decompositions, which are not composed again.
func TestCompatible(t *testing.T) {
	mustBeCompatible(t, []int{0xFB01}, []int{0x66, 0x69}, []int{0x66, 0x69})
	mustBeCompatible(t, []int{0xA0}, []int{0x20}, []int{0x20})
	mustBeCompatible(t, []int{0xA8}, []int{0x20, 0x308}, []int{0x20, 0x308})
	mustBeCompatible(t, []int{0x2122, 0xBD}, []int{0x54, 0x4D, 0x31, 0x2044, 0x32}, []int{0x54, 0x4D, 0x31, 0x2044, 0x32})
	mustBeCompatible(t, []int{0x2026}, []int{0x2E, 0x2E, 0x2E}, []int{0x2E, 0x2E, 0x2E})
}

// P11.1: a compatibility decomposition whose scalars decompose too, and one inside a canonical one.
func TestCompatibleInside(t *testing.T) {
	mustBeCompatible(t, []int{0x385}, []int{0x20, 0x308, 0x301}, []int{0x20, 0x308, 0x301})
	mustBeCompatible(t, []int{0xFB05}, []int{0x73, 0x74}, []int{0x73, 0x74})
	mustBe(t, []int{0x2001}, false, []int{0x2003}, []int{0x2003})
	mustBe(t, []int{0x2001}, true, []int{0x20}, []int{0x20})
}

// P11.1: what a compatibility decomposition leaves is composed, and put in order with the marks around it.
func TestCompatibleComposes(t *testing.T) {
	mustBeCompatible(t, []int{0xFF21, 0x30A}, []int{0x41, 0x30A}, []int{0xC5})
	mustBeCompatible(t, []int{0xFF76, 0xFF9E}, []int{0x30AB, 0x3099}, []int{0x30AC})
	mustBeCompatible(t, []int{0x30CF, 0xFF9F}, []int{0x30CF, 0x309A}, []int{0x30D1})
	mustBeCompatible(t, []int{0xFB06, 0x30C}, []int{0x73, 0x74, 0x30C}, []int{0x73, 0x165})
	mustBeCompatible(t, []int{0xB8, 0x334, 0x301}, []int{0x20, 0x334, 0x327, 0x301}, []int{0x20, 0x334, 0x327, 0x301})
	mustBe(t, []int{0x30AB, 0x301, 0xFF9E}, false, []int{0x30AB, 0x301, 0xFF9E}, []int{0x30AB, 0x301, 0xFF9E})
	mustBe(t, []int{0x30AB, 0x301, 0xFF9E}, true, []int{0x30AB, 0x3099, 0x301}, []int{0x30AC, 0x301})
}

// P11.1: marks that are not in canonical order, among them such as decompositions leave.
func TestOrderOfMarks(t *testing.T) {
	mustBeAlike(t, []int{0x41, 0x302, 0x323}, []int{0x41, 0x323, 0x302}, []int{0x1EAC})
	mustBeAlike(t, []int{0xC2, 0x323}, []int{0x41, 0x323, 0x302}, []int{0x1EAC})
	mustBeAlike(t, []int{0x62, 0x301, 0x323}, []int{0x62, 0x323, 0x301}, []int{0x62, 0x323, 0x301})
	mustBeAlike(t, []int{0x345, 0x344, 0x323}, []int{0x323, 0x308, 0x301, 0x345}, []int{0x323, 0x308, 0x301, 0x345})
	mustBeAlike(t, []int{0x61, 0x315, 0x300, 0x5AE, 0x300}, []int{0x61, 0x300, 0x315, 0x5AE, 0x300}, []int{0xE0, 0x315, 0x5AE, 0x300})
	mustBeAlike(t, []int{0xE9, 0x334}, []int{0x65, 0x334, 0x301}, []int{0xE9, 0x334})
	mustBeAlike(t, []int{0x61, 0x301, 0x300}, []int{0x61, 0x301, 0x300}, []int{0xE1, 0x300})
	mustBeAlike(t, []int{0x301, 0x323, 0x61}, []int{0x323, 0x301, 0x61}, []int{0x323, 0x301, 0x61})
}

// P11.1: Hangul letters and syllables, with compat and without.
func TestHangul(t *testing.T) {
	mustBeAlike(t, []int{0xAC00}, []int{0x1100, 0x1161}, []int{0xAC00})
	mustBeAlike(t, []int{0xAC01}, []int{0x1100, 0x1161, 0x11A8}, []int{0xAC01})
	mustBeAlike(t, []int{0xD7A3}, []int{0x1112, 0x1175, 0x11C2}, []int{0xD7A3})
	mustBeAlike(t, []int{0x1112, 0x1175, 0x11C2}, []int{0x1112, 0x1175, 0x11C2}, []int{0xD7A3})
	mustBeAlike(t, []int{0xAC00, 0x11A8}, []int{0x1100, 0x1161, 0x11A8}, []int{0xAC01})
	mustBeAlike(t, []int{0xAC01, 0x11A8}, []int{0x1100, 0x1161, 0x11A8, 0x11A8}, []int{0xAC01, 0x11A8})
	mustBeAlike(t, []int{0x1100, 0xAC00, 0x1161}, []int{0x1100, 0x1100, 0x1161, 0x1161}, []int{0x1100, 0xAC00, 0x1161})
	mustStay(t, 0x1100, 0x301, 0x1161)
	mustStay(t, 0x1161, 0x1100)
	mustStay(t, 0x1112, 0x1176)
	mustStay(t, 0x1100, 0x11A8)
}

// P11.1: excluded composites stay apart, and what decomposes into two marks does too.
func TestExcludedStayApart(t *testing.T) {
	for _, row := range [][3]int{{0x344, 0x308, 0x301}, {0x958, 0x915, 0x93C}, {0x959, 0x916, 0x93C}, {0xFB1D, 0x5D9, 0x5B4}, {0xFB2A, 0x5E9, 0x5C1}, {0xFB2B, 0x5E9, 0x5C2}} {
		mustBeAlike(t, row[:1], row[1:], row[1:])
		mustStay(t, row[1:]...)
	}
	mustBeAlike(t, []int{0x3B9, 0x344}, []int{0x3B9, 0x308, 0x301}, []int{0x390})
}

// noScalars are numbers that are no scalars, among them those that are the same as a letter, a mark or a ligature but for bits that a smaller number does not have.
func noScalars() []int {
	l := []int{
		math.MinInt, math.MinInt + 1, math.MinInt32, -1 << 40, -0x301, -0x41, -2, -1,
		0xD800, 0xD801, 0xDBFF, 0xDC00, 0xDFFE, 0xDFFF,
		api.MaxScalar + 1, api.MaxScalar + 2, math.MaxInt32, math.MaxInt32 + 1, 1 << 40, 1 << 62, math.MaxInt - 1, math.MaxInt,
	}
	for _, c := range []int{0x41, 0xC0, 0x301, 0x323, 0x1100, 0x1161, 0x11A8, 0xAC00, 0xFB01} {
		for _, shift := range []int{21, 31, 32, 48, 62, 63} {
			l = append(l, c+1<<shift, c-1<<shift)
		}
	}
	return l
}

// P11.1, R1, R5: a number that is no scalar stays, alone and among letters and marks, and parts the marks that it stands between.
func TestNumbersThatAreNoScalars(t *testing.T) {
	for _, c := range noScalars() {
		mustStay(t, c)
		mustBeQuick(t, 0x41, c)
		mustStay(t, 0x41, c, 0x301)
		mustStay(t, 0x301, c, 0x323)
		mustStay(t, 0x1100, c, 0x1161)
		mustBeAlike(t, []int{c, 0xC2, 0x323, c}, []int{c, 0x41, 0x323, 0x302, c}, []int{c, 0x1EAC, c})
	}
	mustStay(t, noScalars()...)
	mustBeQuick(t, noScalars()...)
}

// mustBeQuick checks that Quick is true for s, with compat and without.
func mustBeQuick(t *testing.T, s ...int) {
	t.Helper()
	for _, compat := range []bool{false, true} {
		if !norm.Quick(s, compat) {
			t.Errorf("Quick(%#x, %t) = false", s, compat)
		}
	}
}

// mustNotBeQuick checks that Quick is false for c alone and among others, with compat and without.
func mustNotBeQuick(t *testing.T, c int) {
	t.Helper()
	for _, s := range [][]int{{c}, {c, 0x61}, {0x61, c}, {0x61, 0x62, c, 0x63}, {c, c}} {
		for _, compat := range []bool{false, true} {
			if norm.Quick(s, compat) {
				t.Errorf("Quick(%#x, %t) = true", s, compat)
			}
		}
	}
}

// P11.1: Quick is true for numbers without a decomposition, of class 0, that are neither later letters of Hangul nor second numbers.
func TestQuickIsTrue(t *testing.T) {
	mustBeQuick(t, 0)
	mustBeQuick(t, 0x61, 0xC6, 0xDF)
	mustBeQuick(t, 0x4E00, 0x10300, api.MaxScalar, 0x34F, 0x20)
	mustBeQuick(t, 0x1100, 0x1112, 0x1100)
	mustBeQuick(t, 0xABFF, 0xD7A4)
}

// P11.1: Quick is false for what has a canonical decomposition, with compat and without.
func TestQuickOfCanonical(t *testing.T) {
	for _, c := range []int{0xC0, 0x1EA4, 0x2126, 0x212B, 0x37E, 0x1FEF, 0x958, 0xFB1D, 0x2000, 0xAC00, 0xAC01, 0xB000, 0xD7A3} {
		mustNotBeQuick(t, c)
	}
}

// P11.1: a compatibility decomposition counts only with compat.
func TestQuickOfCompatible(t *testing.T) {
	for _, c := range []int{0xA0, 0xA8, 0x132, 0x385, 0x2002, 0x2122, 0x3000, 0xFB01, 0xFF21, 0xFF9E} {
		for _, s := range [][]int{{c}, {0x61, c}, {c, 0x61}} {
			if !norm.Quick(s, false) || norm.Quick(s, true) {
				t.Errorf("Quick(%#x) = %t, with compat %t", s, norm.Quick(s, false), norm.Quick(s, true))
			}
		}
	}
}

// P11.1: Quick is false for what has a class, whether it composes with anything or not.
func TestQuickOfMarks(t *testing.T) {
	for _, r := range api.Classes() {
		mustNotBeQuick(t, r.From)
		mustNotBeQuick(t, r.To)
	}
	for _, c := range []int{0x2FF, 0x31A, 0x34A, 0x5AF, 0x5B2, 0x93B, 0x94E, 0x20CF, 0x20D2, 0x3098, 0x309B, 0xFE1F, 0xFE24} {
		mustBeQuick(t, c)
	}
}

// P11.1: Quick is false for vowels and trailing consonants up to both ends of their ranges, and true beside them, whether something stands ahead of them or not.
func TestQuickOfLaterLetters(t *testing.T) {
	for c := 0x1161; c <= 0x1175; c++ {
		mustNotBeQuick(t, c)
	}
	for c := 0x11A8; c <= 0x11C2; c++ {
		mustNotBeQuick(t, c)
	}
	for _, c := range []int{0x1100, 0x1112, 0x1113, 0x1160, 0x1176, 0x1177, 0x11A6, 0x11A7, 0x11C3, 0x11C4} {
		mustBeQuick(t, c)
		mustBeQuick(t, 0x1100, c)
	}
}

// P11.1: Quick is false for what composes with a number ahead of it, and for those lists that Form leaves as they are too.
func TestQuickOfSecondNumbers(t *testing.T) {
	for _, c := range []int{0x300, 0x30C, 0x323, 0x327, 0x328, 0x3099, 0x309A} {
		mustNotBeQuick(t, c)
	}
	for _, s := range [][]int{{0x301}, {0x62, 0x301}, {0xC0}, {0xAC00}, {0x1161}} {
		if norm.Quick(s, false) || !slices.Equal(norm.Form(s, false), s) {
			t.Errorf("%#x: Quick is %t, Form is %#x", s, norm.Quick(s, false), norm.Form(s, false))
		}
	}
}

// mustBeSame checks Same for a and b in both orders, without compat and with compat.
func mustBeSame(t *testing.T, a, b []int, canonical, compatible bool) {
	t.Helper()
	for _, x := range [][2][]int{{a, b}, {b, a}} {
		if got := norm.Same(x[0], x[1], false); got != canonical {
			t.Errorf("Same(%#x, %#x, false) = %t", x[0], x[1], got)
		}
		if got := norm.Same(x[0], x[1], true); got != compatible {
			t.Errorf("Same(%#x, %#x, true) = %t", x[0], x[1], got)
		}
	}
}

// P11.1: lists with the same Form in both ways: equal ones, composed and apart, marks in another order.
func TestSame(t *testing.T) {
	for _, s := range lists() {
		mustBeSame(t, s, slices.Clone(s), true, true)
	}
	mustBeSame(t, []int{0xC0}, []int{0x41, 0x300}, true, true)
	mustBeSame(t, []int{0x212B}, []int{0xC5}, true, true)
	mustBeSame(t, []int{0x2126}, []int{0x3A9}, true, true)
	mustBeSame(t, []int{0x344}, []int{0x308, 0x301}, true, true)
	mustBeSame(t, []int{0x958}, []int{0x915, 0x93C}, true, true)
	mustBeSame(t, []int{0xAC01}, []int{0x1100, 0x1161, 0x11A8}, true, true)
	mustBeSame(t, []int{0xAC00, 0x11A8}, []int{0x1100, 0x1161, 0x11A8}, true, true)
	mustBeSame(t, []int{0x41, 0x302, 0x323}, []int{0x41, 0x323, 0x302}, true, true)
	mustBeSame(t, []int{0xC2, 0x323}, []int{0x1EA0, 0x302}, true, true)
	mustBeSame(t, []int{0x62, 0x345, 0x334, 0x301}, []int{0x62, 0x301, 0x345, 0x334}, true, true)
}

// P11.1: lists that only compatibility decompositions make the same.
func TestSameWithCompatAlone(t *testing.T) {
	mustBeSame(t, []int{0xFB01}, []int{0x66, 0x69}, false, true)
	mustBeSame(t, []int{0x2000}, []int{0x20}, false, true)
	mustBeSame(t, []int{0x2000}, []int{0x2001}, false, true)
	mustBeSame(t, []int{0xFF21, 0x30A}, []int{0x212B}, false, true)
	mustBeSame(t, []int{0xFF76, 0xFF9E}, []int{0x30AC}, false, true)
	mustBeSame(t, []int{0x385}, []int{0x384, 0x308}, false, false)
	mustBeSame(t, []int{0x385}, []int{0x20, 0x344}, false, true)
}

// P11.1: lists that differ in both ways: marks of one class in another order, one number more or less, no scalars.
func TestNotSame(t *testing.T) {
	mustBeSame(t, []int{0x61}, []int{0x62}, false, false)
	mustBeSame(t, []int{0x61}, []int{0x61, 0x61}, false, false)
	mustBeSame(t, []int{0x61}, []int{0x61, 0x301}, false, false)
	mustBeSame(t, []int{0x61, 0x301, 0x300}, []int{0x61, 0x300, 0x301}, false, false)
	mustBeSame(t, []int{0x41}, []int{0x61}, false, false)
	mustBeSame(t, []int{0x1100, 0x1161}, []int{0x1161, 0x1100}, false, false)
	mustBeSame(t, []int{0x61, 0x34F, 0x301}, []int{0xE1}, false, false)
	mustBeSame(t, []int{-1}, []int{0xDFFF}, false, false)
	mustBeSame(t, []int{0x41}, []int{0x41 + 1<<32}, false, false)
	mustBeSame(t, []int{0x66, 0x69}, []int{0xFB01 + 1<<40}, false, false)
}

// P11.1, R1: long lists: of one number, of marks alone, of syllables, of a letter with many marks.
func TestLongLists(t *testing.T) {
	const count = 50000
	mustStay(t, slices.Repeat([]int{0x61}, count)...)
	mustStay(t, slices.Repeat([]int{0}, count)...)
	mustBeQuick(t, slices.Repeat([]int{0}, count)...)
	mustBeQuick(t, slices.Repeat([]int{0x61, 0x1100, -1}, count)...)
	mustStay(t, slices.Repeat([]int{0x345}, count)...)
	mustBeAlike(t, slices.Repeat([]int{0xC2, 0x323}, count), slices.Repeat([]int{0x41, 0x323, 0x302}, count), slices.Repeat([]int{0x1EAC}, count))
	mustBeAlike(t, slices.Repeat([]int{0xAC00, 0x11A8}, count), slices.Repeat([]int{0x1100, 0x1161, 0x11A8}, count), slices.Repeat([]int{0xAC01}, count))
	above, below := slices.Repeat([]int{0x301}, count), slices.Repeat([]int{0x323}, count)
	sorted := slices.Concat([]int{0x62}, below, above)
	mustBeAlike(t, append([]int{0x62}, slices.Repeat([]int{0x301, 0x323}, count)...), sorted, sorted)
	mustBeCompatible(t, slices.Repeat([]int{0xFB03}, count), slices.Repeat([]int{0x66, 0x66, 0x69}, count), slices.Repeat([]int{0x66, 0x66, 0x69}, count))
	mustBeSame(t, slices.Repeat([]int{0xC0}, count), slices.Repeat([]int{0x41, 0x300}, count), true, true)
	mustBeSame(t, slices.Repeat([]int{0xC0}, count), append(slices.Repeat([]int{0x41, 0x300}, count), 0), false, false)
}

// lists are a few lists: such as stay, and such as do not.
func lists() [][]int {
	return [][]int{
		{}, {0x41}, {0x301}, {-1}, {0xC0}, {0xFB01}, {0xAC01}, {0x61, 0x62, 0x63}, {0x41, 0x301}, {0x41, 0x302, 0x323}, {0x41, 0x323, 0x302},
		{0x1100, 0x1161}, {0x1112, 0x1175, 0x11C2, 0x41}, {0x958}, {0x345, 0x344}, {0xFF76, 0xFF9E}, {1 << 40, 0x301, 0x41, 0x301},
	}
}

// calls are the functions that return a list, in both ways.
func calls() []func([]int) []int {
	return []func([]int) []int{
		func(s []int) []int { return norm.Apart(s, false) },
		func(s []int) []int { return norm.Apart(s, true) },
		func(s []int) []int { return norm.Form(s, false) },
		func(s []int) []int { return norm.Form(s, true) },
	}
}

// spoil changes l, its spare capacity too.
func spoil(l []int) {
	full := l[:cap(l)]
	for i := range full {
		full[i] = 0x334
	}
}

// R2: a result that is changed afterwards, its spare capacity too, changes neither the argument nor another result nor a later one.
func TestResultsAreNewMemory(t *testing.T) {
	for i, call := range calls() {
		for _, s := range lists() {
			kept := slices.Clone(s)
			first, second := call(s), call(s)
			want := slices.Clone(first)
			spoil(first)
			if !slices.Equal(second, want) || !slices.Equal(call(kept), want) {
				t.Errorf("call %d, %#x: results share memory", i, kept)
			}
			if !slices.Equal(s, kept) {
				t.Errorf("call %d: the result shares memory with the argument %#x, now %#x", i, kept, s)
			}
		}
	}
}

// R2: a result that is the same as the argument shares no memory with it either, nor with what stands behind its length.
func TestResultsOfResultsAreNewMemory(t *testing.T) {
	for i, call := range calls() {
		for _, s := range lists() {
			whole := append(call(s), 0x61, 0x301)
			kept := slices.Clone(whole)
			spoil(call(whole[:len(whole)-2]))
			if !slices.Equal(whole, kept) {
				t.Errorf("call %d: the result shares memory with the argument: %#x is now %#x", i, kept, whole)
			}
		}
	}
}

// R2, R6: an argument stays as it is, and what stands behind its length is not read; one that is changed afterwards does not change the result.
func TestArgumentStays(t *testing.T) {
	for i, call := range calls() {
		for _, s := range lists() {
			whole := append(slices.Clone(s), 0x323, 0x302, 0x11A8, 0xC0)
			kept := slices.Clone(whole)
			want := call(slices.Clone(s))
			got := call(whole[:len(s)])
			if !slices.Equal(whole, kept) {
				t.Errorf("call %d: %#x was changed into %#x", i, kept, whole)
			}
			spoil(whole)
			if !slices.Equal(got, want) {
				t.Errorf("call %d, %#x: %#x; want %#x", i, s, got, want)
			}
		}
	}
}

// R2, R6: the same of Quick and Same, whose arguments stay as they are and are not read behind their length.
func TestArgumentsOfQuestionsStay(t *testing.T) {
	for _, compat := range []bool{false, true} {
		for _, s := range lists() {
			whole := append(slices.Clone(s), 0x323, 0x302, 0x11A8, 0xC0)
			kept := slices.Clone(whole)
			if norm.Quick(whole[:len(s)], compat) != norm.Quick(slices.Clone(s), compat) {
				t.Errorf("Quick(%#x, %t) hangs on what stands behind it", s, compat)
			}
			if !norm.Same(whole[:len(s)], slices.Clone(s), compat) || !norm.Same(slices.Clone(s), whole[:len(s)], compat) || !norm.Same(whole[:len(s)], whole[:len(s)], compat) {
				t.Errorf("Same(%#x, itself, %t) = false", s, compat)
			}
			if !slices.Equal(whole, kept) {
				t.Errorf("%#x was changed into %#x", kept, whole)
			}
		}
	}
}

// R3: calls in turn and from several goroutines at once do not disturb each other.
func TestCallsAtOnce(t *testing.T) {
	shared := []int{0xC2, 0x323, 0xFB01}
	var group sync.WaitGroup
	for range 8 {
		group.Go(func() {
			for range 20 {
				mustBe(t, shared, false, []int{0x41, 0x323, 0x302, 0xFB01}, []int{0x1EAC, 0xFB01})
				mustBe(t, shared, true, []int{0x41, 0x323, 0x302, 0x66, 0x69}, []int{0x1EAC, 0x66, 0x69})
				mustNotBeQuick(t, 0x1161)
				mustBeQuick(t, 0x1160, 0x61)
				mustBeSame(t, shared, []int{0x1EAC, 0x66, 0x69}, false, true)
			}
		})
	}
	group.Wait()
}
