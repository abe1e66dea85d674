package compose_test

import (
	"math"
	"slices"
	"sync"
	"testing"

	"sobriquet/api"
	"sobriquet/compose"
)

// mustBuild checks that composition of s builds the list want.
func mustBuild(t *testing.T, s []int, want ...int) {
	t.Helper()
	if got := compose.All(s); !slices.Equal(got, want) {
		t.Errorf("All(%#x) = %#x; want %#x", s, got, want)
	}
}

// mustStay checks that composition of s builds s.
func mustStay(t *testing.T, s ...int) {
	t.Helper()
	mustBuild(t, s, s...)
}

// mustCompose checks that a and b have the composite want, by Two and by All.
func mustCompose(t *testing.T, a, b, want int) {
	t.Helper()
	if got, known := compose.Two(a, b); got != want || !known {
		t.Errorf("Two(%#x, %#x) = %#x, %t; want %#x", a, b, got, known, want)
	}
	mustBuild(t, []int{a, b}, want)
}

// mustNotCompose checks that a and b have no composite, by Two and by All.
func mustNotCompose(t *testing.T, a, b int) {
	t.Helper()
	if got, known := compose.Two(a, b); got != 0 || known {
		t.Errorf("Two(%#x, %#x) = %#x, %t; want none", a, b, got, known)
	}
	mustStay(t, a, b)
}

// P10.1: the example of the chapter.
func TestExample(t *testing.T) {
	mustBuild(t, []int{0x41, 0x323, 0x302}, 0x1EAC)
}

// P10.1: nothing is built of nothing, whether the list is nil or empty.
func TestNothing(t *testing.T) {
	for _, s := range [][]int{nil, {}, make([]int, 0, 8)} {
		mustBuild(t, s)
	}
}

// P10.1: one number alone stays, a composite too.
func TestOneNumber(t *testing.T) {
	for _, c := range []int{0, 0x41, 0xC0, 0x2FF, 0x300, 0x344, 0x345, 0x958, 0x1100, 0x1161, 0x11A8, 0x1EAC, 0x212B, 0xAC00, 0xAC01, 0xFB1D, api.MaxScalar, -1, 0xD800, 1 << 40} {
		mustStay(t, c)
	}
}

// P10.1: a letter and a mark.
func TestLetterWithOneMark(t *testing.T) {
	mustCompose(t, 0x41, 0x300, 0xC0)
	mustCompose(t, 0x7A, 0x30C, 0x17E)
	mustCompose(t, 0x43, 0x327, 0xC7)
	mustCompose(t, 0x61, 0x328, 0x105)
	mustCompose(t, 0x3B1, 0x301, 0x3AC)
	mustCompose(t, 0x438, 0x306, 0x439)
	mustCompose(t, 0x30AB, 0x3099, 0x30AC)
	mustCompose(t, 0x306F, 0x3099, 0x3070)
	mustCompose(t, 0x306F, 0x309A, 0x3071)
	mustBuild(t, []int{0x41, 0x300, 0x42, 0x301, 0x63, 0x301}, 0xC0, 0x42, 0x301, 0x107)
}

// P10.1: a composite is the starter from then on, and composes further.
func TestLetterWithMoreMarks(t *testing.T) {
	mustCompose(t, 0xC2, 0x301, 0x1EA4)
	mustCompose(t, 0x1EA0, 0x302, 0x1EAC)
	mustBuild(t, []int{0x41, 0x302, 0x301}, 0x1EA4)
	mustBuild(t, []int{0x3B9, 0x308, 0x301}, 0x390)
	mustBuild(t, []int{0x6F, 0x323, 0x302}, 0x1ED9)
	mustBuild(t, []int{0x41, 0x302, 0x301, 0x41, 0x302, 0x301}, 0x1EA4, 0x1EA4)
	mustBuild(t, []int{0x41, 0x302, 0x301, 0x300}, 0x1EA4, 0x300)
	mustBuild(t, []int{0x41, 0x302, 0x301, 0x345}, 0x1EA4, 0x345)
}

// P10.1: a mark that does not compose with the composite that was made before stays, though it would compose with the letter.
func TestMarkFollowsComposite(t *testing.T) {
	mustBuild(t, []int{0x41, 0x300, 0x301}, 0xC0, 0x301)
	mustBuild(t, []int{0x41, 0x302, 0x323}, 0xC2, 0x323)
	mustBuild(t, []int{0x41, 0x328, 0x301}, 0x104, 0x301)
	mustBuild(t, []int{0x41, 0x300, 0x300}, 0xC0, 0x300)
	mustNotCompose(t, 0xC0, 0x301)
}

// P10.1: a mark that follows the starter directly is not blocked, though the mark ahead of it, of its class or of a greater one, was composed.
func TestComposedMarkDoesNotBlock(t *testing.T) {
	mustBuild(t, []int{0x45, 0x302, 0x300}, 0x1EC0)
	mustBuild(t, []int{0x3C5, 0x308, 0x301}, 0x3B0)
	mustBuild(t, []int{0x41, 0x302, 0x301, 0x323}, 0x1EA4, 0x323)
	mustCompose(t, 0x1100, 0x1161, 0xAC00)
	mustBuild(t, []int{0x1100, 0x1161, 0x11A8, 0x41, 0x301}, 0xAC01, 0xC1)
	mustBuild(t, []int{0x301, 0x41, 0x301}, 0x301, 0xC1)
}

// P10.1: a mark is blocked by one of its class.
func TestBlockedByTheSameClass(t *testing.T) {
	mustStay(t, 0x41, 0x346, 0x301)
	mustStay(t, 0x41, 0x33D, 0x301)
	mustStay(t, 0x41, 0x324, 0x323)
	mustStay(t, 0x41, 0x321, 0x328)
	mustBuild(t, []int{0x41, 0x302, 0x346, 0x301}, 0xC2, 0x346, 0x301)
	mustBuild(t, []int{0x41, 0x302, 0x302, 0x301}, 0xC2, 0x302, 0x301)
}

// P10.1: a mark is blocked by one of a greater class.
func TestBlockedByAGreaterClass(t *testing.T) {
	mustStay(t, 0x41, 0x315, 0x301)
	mustStay(t, 0x41, 0x345, 0x301)
	mustStay(t, 0x41, 0x346, 0x323)
	mustStay(t, 0x43, 0x323, 0x327)
	mustStay(t, 0x41, 0x327, 0x346, 0x323)
	mustStay(t, 0x30AB, 0x301, 0x3099)
	mustBuild(t, []int{0x41, 0x300, 0x345, 0x301}, 0xC0, 0x345, 0x301)
}

// P10.1: a mark is not blocked by one of a smaller class, which stays behind the composite.
func TestNotBlockedByASmallerClass(t *testing.T) {
	mustBuild(t, []int{0x41, 0x327, 0x301}, 0xC1, 0x327)
	mustBuild(t, []int{0x41, 0x334, 0x301}, 0xC1, 0x334)
	mustBuild(t, []int{0x41, 0x324, 0x301}, 0xC1, 0x324)
	mustBuild(t, []int{0x41, 0x334, 0x327, 0x324, 0x301}, 0xC1, 0x334, 0x327, 0x324)
	mustBuild(t, []int{0x45, 0x323, 0x327, 0x302}, 0x1EC6, 0x327)
	mustBuild(t, []int{0x41, 0x334, 0x323, 0x302}, 0x1EAC, 0x334)
	mustBuild(t, []int{0x41, 0x334, 0x302, 0x301}, 0x1EA4, 0x334)
	mustBuild(t, []int{0x41, 0x334, 0x302, 0x346, 0x301}, 0xC2, 0x334, 0x346, 0x301)
	mustBuild(t, []int{0x30AB, 0x334, 0x3099}, 0x30AC, 0x334)
}

// P10.1: only the last number of the list blocks, not those ahead of it.
func TestOnlyTheLastNumberBlocks(t *testing.T) {
	mustBuild(t, []int{0x41, 0x345, 0x323, 0x301}, 0xC1, 0x345, 0x323)
	mustBuild(t, []int{0x41, 0x346, 0x327, 0x301}, 0xC1, 0x346, 0x327)
	mustBuild(t, []int{0x41, 0x346, 0x334, 0x301, 0x302}, 0xC1, 0x346, 0x334, 0x302)
	mustBuild(t, []int{0x41, 0x346, 0x334, 0x302, 0x301}, 0x1EA4, 0x346, 0x334)
}

// P10.1: a mark composes only with the last number of class 0, whatever that is.
func TestNumberOfClass0Between(t *testing.T) {
	mustStay(t, 0x41, 0x42, 0x301)
	mustBuild(t, []int{0x41, 0x65, 0x301}, 0x41, 0xE9)
	mustStay(t, 0x41, 0x34F, 0x301)
	mustStay(t, 0x41, 0x20, 0x301)
	mustStay(t, 0x41, 0, 0x301)
	mustStay(t, 0x41, -1, 0x301)
	mustStay(t, 0x41, 0xAC00, 0x301)
	mustBuild(t, []int{0x41, 0x327, 0x65, 0x301}, 0x41, 0x327, 0xE9)
	mustStay(t, 0x41, 0x316, 0x42, 0x302, 0x302)
}

// P10.1: two starters compose only if nothing stands between them.
func TestHangul(t *testing.T) {
	mustCompose(t, 0x1100, 0x1161, 0xAC00)
	mustCompose(t, 0x1112, 0x1175, 0xD788)
	mustCompose(t, 0xAC00, 0x11A8, 0xAC01)
	mustCompose(t, 0xD788, 0x11C2, 0xD7A3)
	mustBuild(t, []int{0x1100, 0x1161, 0x11A8}, 0xAC01)
	mustBuild(t, []int{0x1112, 0x1175, 0x11C2}, 0xD7A3)
	mustBuild(t, []int{0x1100, 0x1161, 0x1100, 0x1161, 0x11A8, 0x1100}, 0xAC00, 0xAC01, 0x1100)
	mustBuild(t, []int{0x41, 0x1100, 0x1161, 0x11A8, 0x42}, 0x41, 0xAC01, 0x42)
	mustBuild(t, []int{0x1100, 0x1100, 0x1161, 0x1161}, 0x1100, 0xAC00, 0x1161)
}

// P10.1: a syllable with a trailing consonant takes no more, and one without takes no vowel; letters at the borders of the rows.
func TestHangulThatDoesNotCompose(t *testing.T) {
	mustNotCompose(t, 0xAC01, 0x11A8)
	mustNotCompose(t, 0xAC00, 0x1161)
	mustNotCompose(t, 0xAC00, 0x1100)
	mustNotCompose(t, 0xAC00, 0x11A7)
	mustNotCompose(t, 0xAC00, 0x11C3)
	mustNotCompose(t, 0x1100, 0x11A8)
	mustNotCompose(t, 0x1161, 0x11A8)
	mustNotCompose(t, 0x1161, 0x1100)
	mustNotCompose(t, 0x1100, 0xAC00)
	mustNotCompose(t, 0x10FF, 0x1161)
	mustNotCompose(t, 0x1113, 0x1161)
	mustNotCompose(t, 0x1100, 0x1160)
	mustNotCompose(t, 0x1100, 0x1176)
	mustNotCompose(t, 0xABFF, 0x11A8)
	mustNotCompose(t, 0xD7A4, 0x11A8)
	mustBuild(t, []int{0x1100, 0x1161, 0x11A7}, 0xAC00, 0x11A7)
	mustBuild(t, []int{0x1100, 0x1161, 0x11A8, 0x11A8}, 0xAC01, 0x11A8)
}

// P10.1: a number of class 0 is blocked by every mark between it and the starter.
func TestMarkBetweenStarters(t *testing.T) {
	for _, mark := range []int{0x334, 0x93C, 0x3099, 0x94D, 0x327, 0x323, 0x301, 0x345} {
		mustStay(t, 0x1100, mark, 0x1161)
		mustStay(t, 0xAC00, mark, 0x11A8)
		mustBuild(t, []int{0x1100, 0x1161, mark, 0x11A8}, 0xAC00, mark, 0x11A8)
	}
}

// P10.1: what stands ahead of the first starter is appended, in whatever order.
func TestNumbersAheadOfTheFirstStarter(t *testing.T) {
	mustStay(t, 0x301)
	mustStay(t, 0x308, 0x301)
	mustStay(t, 0x345, 0x301, 0x334)
	mustStay(t, 0x301, 0x42)
	mustBuild(t, []int{0x301, 0x41, 0x301}, 0x301, 0xC1)
	mustBuild(t, []int{0x345, 0x301, 0x334, 0x41, 0x323, 0x302}, 0x345, 0x301, 0x334, 0x1EAC)
	mustBuild(t, []int{0x345, 0x1100, 0x1161}, 0x345, 0xAC00)
}

// P10.1: what is excluded is not composed, nor what begins with a mark.
func TestExcludedPairs(t *testing.T) {
	mustNotCompose(t, 0x308, 0x301)
	mustNotCompose(t, 0x915, 0x93C)
	mustNotCompose(t, 0x916, 0x93C)
	mustNotCompose(t, 0x5D9, 0x5B4)
	mustNotCompose(t, 0x5E9, 0x5C1)
	mustNotCompose(t, 0x5E9, 0x5C2)
	mustStay(t, 0x62, 0x5B4, 0x308, 0x301)
	mustStay(t, 0x915, 0x93C, 0x915, 0x93C)
}

// P10.1: what consists of one scalar alone is not composed of it.
func TestOneScalarAlone(t *testing.T) {
	for _, c := range []int{0x300, 0x301, 0x313, 0x2B9, 0x3B, 0xB7, 0x60, 0x2002, 0x2003, 0x3A9, 0x4B, 0xC5} {
		mustNotCompose(t, c, 0)
		mustNotCompose(t, 0, c)
		mustStay(t, c)
	}
	mustBuild(t, []int{0x41, 0x30A}, 0xC5)
}

// P10.1: pairs without a composite: the other way about, of two letters, of what has only a compatibility decomposition.
func TestPairsWithoutAComposite(t *testing.T) {
	mustNotCompose(t, 0, 0)
	mustNotCompose(t, 0x300, 0x41)
	mustNotCompose(t, 0x42, 0x301)
	mustNotCompose(t, 0x41, 0x42)
	mustNotCompose(t, 0x66, 0x69)
	mustNotCompose(t, 0x20, 0x308)
	mustNotCompose(t, 0x49, 0x4A)
	mustNotCompose(t, 0x4E00, 0x301)
	mustNotCompose(t, 0x41, 0x340)
	mustNotCompose(t, 0x41, 0x341)
	mustNotCompose(t, 0x391, 0x344)
	mustNotCompose(t, 0x300, 0x301)
}

// P10.1: nothing is decomposed, and nothing is put in order.
func TestOnlyComposition(t *testing.T) {
	mustStay(t, 0x340, 0x212B, 0x958, 0xFB01, 0x1EA4)
	mustStay(t, 0x41, 0x345, 0x324, 0x334)
	mustBuild(t, []int{0x41, 0x301, 0x323}, 0xC1, 0x323)
	mustStay(t, 0x212B, 0x301)
}

// noScalars are numbers that are no scalars, among them those that are the same as a letter or a mark but for bits that a smaller number does not have.
func noScalars() []int {
	l := []int{
		math.MinInt, math.MinInt + 1, math.MinInt32, -1 << 40, -0x301, -0x41, -2, -1,
		0xD800, 0xD801, 0xDBFF, 0xDC00, 0xDFFE, 0xDFFF,
		api.MaxScalar + 1, api.MaxScalar + 2, math.MaxInt32, math.MaxInt32 + 1, 1 << 40, 1 << 62, math.MaxInt - 1, math.MaxInt,
	}
	for _, c := range []int{0x41, 0x301, 0x327, 0x1100, 0x1161, 0x11A8, 0xAC00} {
		for _, shift := range []int{21, 31, 32, 48, 62, 63} {
			l = append(l, c+1<<shift, c-1<<shift)
		}
	}
	return l
}

// P10.1, R1, R5: a number that is no scalar has no composite with anything, and is a starter for what follows it.
func TestNumbersThatAreNoScalars(t *testing.T) {
	for _, c := range noScalars() {
		mustStay(t, c)
		for _, other := range []int{0, 0x41, 0x300, 0x301, 0x1100, 0x1161, 0x11A7, 0x11A8, 0xAC00, 0xAC01, c} {
			mustNotCompose(t, c, other)
			mustNotCompose(t, other, c)
		}
		mustStay(t, 0x41, c, 0x301)
		mustStay(t, 0x1100, c, 0x1161)
		mustStay(t, 0x41, 0x327, c, 0x301)
		mustBuild(t, []int{c, 0x41, 0x327, 0x301, c}, c, 0xC1, 0x327, c)
	}
	mustStay(t, noScalars()...)
}

// P10.1, R1: long lists: of marks alone, of one letter with many marks, of many letters with few.
func TestLongLists(t *testing.T) {
	const count = 100000
	mustStay(t, slices.Repeat([]int{0x301}, count)...)
	mustStay(t, slices.Repeat([]int{0x41}, count)...)
	mustBuild(t, append([]int{0x41}, slices.Repeat([]int{0x301}, count)...), append([]int{0xC1}, slices.Repeat([]int{0x301}, count-1)...)...)
	below := slices.Repeat([]int{0x327}, count)
	mustBuild(t, slices.Concat([]int{0x41}, below, []int{0x301}), append([]int{0xC1}, below...)...)
	mustBuild(t, slices.Repeat([]int{0x41, 0x323, 0x302}, count), slices.Repeat([]int{0x1EAC}, count)...)
	mustBuild(t, slices.Repeat([]int{0x1100, 0x1161, 0x11A8}, count), slices.Repeat([]int{0xAC01}, count)...)
	mustBuild(t, slices.Repeat([]int{0x65, 0x327, 0x301, 0x62}, count), slices.Repeat([]int{0xE9, 0x327, 0x62}, count)...)
}

// P10.1, R1: a long list in which no two neighbours stand together again.
func TestLongListOfDifferentPairs(t *testing.T) {
	var s []int
	for c := 0x4E00; c < 0x9FA5; c++ {
		s = append(s, c, 0x301, c+1, c, 0x327, 0x302)
	}
	mustStay(t, s...)
}

// spoil changes l, its spare capacity too.
func spoil(l []int) {
	full := l[:cap(l)]
	for i := range full {
		full[i] = 0x334
	}
}

// lists are a few lists: such as compose, and such as do not.
func lists() [][]int {
	return [][]int{
		{}, {0x41}, {0x301}, {-1}, {0x41, 0x301}, {0x41, 0x323, 0x302}, {0x41, 0x327, 0x301}, {0x61, 0x62, 0x63},
		{0x301, 0x41, 0x323}, {0x1100, 0x1161}, {0xAC00}, {0x1100, 0x1161, 0x11A8, 0x41}, {1 << 40, 0x301, 0x41, 0x301},
	}
}

// R2: a result that is changed afterwards, its spare capacity too, changes neither the argument nor another result.
func TestResultsAreNewMemory(t *testing.T) {
	for _, s := range lists() {
		kept := slices.Clone(s)
		first, second := compose.All(s), compose.All(s)
		want := slices.Clone(first)
		spoil(first)
		if !slices.Equal(second, want) {
			t.Errorf("%#x: two results share memory", kept)
		}
		if !slices.Equal(s, kept) {
			t.Errorf("%#x: the result shares memory with the argument, now %#x", kept, s)
		}
		mustBuild(t, kept, want...)
	}
}

// R2: a result of what is composed already shares no memory with it either, nor does its spare capacity.
func TestResultsOfComposedAreNewMemory(t *testing.T) {
	for _, s := range lists() {
		composed := append(compose.All(s), 0x61, 0x301)
		whole := slices.Clone(composed)
		spoil(compose.All(composed[:len(composed)-2]))
		if !slices.Equal(composed, whole) {
			t.Errorf("the result shares memory with the argument: %#x is now %#x", whole, composed)
		}
	}
}

// R2, R6: an argument stays as it is, and what stands behind its length is not read; one that is changed afterwards does not change the result.
func TestArgumentStays(t *testing.T) {
	for _, s := range lists() {
		whole := append(slices.Clone(s), 0x301, 0x302, 0x11A8, 0x41, 0x301)
		kept := slices.Clone(whole)
		want := compose.All(slices.Clone(s))
		got := compose.All(whole[:len(s)])
		if !slices.Equal(whole, kept) {
			t.Errorf("%#x was changed into %#x", kept, whole)
		}
		spoil(whole)
		if !slices.Equal(got, want) {
			t.Errorf("All(%#x) = %#x; want %#x", s, got, want)
		}
	}
}

// R3: calls in turn and from several goroutines at once do not disturb each other.
func TestCallsAtOnce(t *testing.T) {
	shared := []int{0x41, 0x323, 0x302}
	var group sync.WaitGroup
	for range 8 {
		group.Go(func() {
			for range 50 {
				mustBuild(t, shared, 0x1EAC)
				mustBuild(t, []int{0x1100, 0x1161, 0x61, 0x327, 0x301}, 0xAC00, 0xE1, 0x327)
				mustNotCompose(t, 0xC0, 0x301)
				mustCompose(t, 0x41, 0x300, 0xC0)
			}
		})
	}
	group.Wait()
}
