package order_test

import (
	"math"
	"slices"
	"sync"
	"testing"

	"sobriquet/api"
	"sobriquet/order"
)

// mustPut checks that s is put in the order want, that s is in canonical order only if it is want already, and that want is and stays so.
func mustPut(t *testing.T, s []int, want ...int) {
	t.Helper()
	if got := order.Put(s); !slices.Equal(got, want) {
		t.Errorf("Put(%#x) = %#x; want %#x", s, got, want)
	}
	if got, is := order.Is(s), slices.Equal(s, want); got != is {
		t.Errorf("Is(%#x) = %t; want %t", s, got, is)
	}
	if !order.Is(want) {
		t.Errorf("Is(%#x) = false; want true", want)
	}
	if got := order.Put(want); !slices.Equal(got, want) {
		t.Errorf("Put(%#x) = %#x; want no change", want, got)
	}
}

// mustStay checks that s is in canonical order, and that Put leaves it unchanged.
func mustStay(t *testing.T, s ...int) {
	t.Helper()
	mustPut(t, s, s...)
}

// P9.1: the example of the chapter.
func TestExample(t *testing.T) {
	mustPut(t, []int{0x61, 0x301, 0x323}, 0x61, 0x323, 0x301)
}

// P9.1: no numbers are in canonical order, whether the list is nil or empty.
func TestNothing(t *testing.T) {
	for _, s := range [][]int{nil, {}, make([]int, 0, 8)} {
		mustPut(t, s)
	}
}

// P9.1: one number alone is in canonical order.
func TestOneNumber(t *testing.T) {
	for _, c := range []int{0, 0x61, 0x2FF, 0x300, 0x301, 0x323, 0x334, 0x345, 0x94D, 0x3099, 0xAC00, 0xFE23, api.MaxScalar, -1, 0xD800, 1 << 40} {
		mustStay(t, c)
	}
}

// P9.1: two marks, which change places only if the first one has the greater class.
func TestTwoMarks(t *testing.T) {
	mustPut(t, []int{0x301, 0x323}, 0x323, 0x301)
	mustStay(t, 0x323, 0x301)
	mustPut(t, []int{0x345, 0x301}, 0x301, 0x345)
	mustStay(t, 0x301, 0x345)
	mustPut(t, []int{0x315, 0x314}, 0x314, 0x315)
	mustStay(t, 0x314, 0x315)
	mustPut(t, []int{0x5C2, 0x5C1}, 0x5C1, 0x5C2)
	mustPut(t, []int{0x94D, 0x93C}, 0x93C, 0x94D)
	mustPut(t, []int{0x5B0, 0x3099}, 0x3099, 0x5B0)
	mustPut(t, []int{0x327, 0x334}, 0x334, 0x327)
}

// P9.1: marks of one class keep their order, whichever is the smaller number, and however many there are.
func TestMarksOfOneClass(t *testing.T) {
	mustStay(t, 0x300, 0x301)
	mustStay(t, 0x301, 0x300)
	mustStay(t, 0x301, 0x301)
	mustStay(t, 0x61, 0x302, 0x301, 0x300, 0x301, 0xFE20, 0x20D0, 0x344, 0x340)
	mustStay(t, 0x325, 0x324, 0x323, 0x349, 0x316)
	mustStay(t, 0x338, 0x334, 0x336)
	mustStay(t, 0x309A, 0x3099)
}

// P9.1: marks of one class keep their order among others.
func TestMarksOfOneClassAmongOthers(t *testing.T) {
	mustPut(t, []int{0x301, 0x323, 0x300, 0x324}, 0x323, 0x324, 0x301, 0x300)
	mustPut(t, []int{0x302, 0x327, 0x301, 0x328, 0x300, 0x321}, 0x327, 0x328, 0x321, 0x302, 0x301, 0x300)
	mustPut(t, []int{0x345, 0x325, 0x301, 0x324, 0x300, 0x323, 0x338, 0x334}, 0x338, 0x334, 0x325, 0x324, 0x323, 0x301, 0x300, 0x345)
	mustPut(t, []int{0x323, 0x301, 0x323, 0x301, 0x323}, 0x323, 0x323, 0x323, 0x301, 0x301)
}

// P9.1: each run is sorted by itself; at the beginning, at the end, and between numbers of class 0.
func TestRuns(t *testing.T) {
	mustPut(t, []int{0x301, 0x323, 0x61}, 0x323, 0x301, 0x61)
	mustPut(t, []int{0x61, 0x62, 0x301, 0x323}, 0x61, 0x62, 0x323, 0x301)
	mustPut(t, []int{0x301, 0x323, 0x61, 0x302, 0x324}, 0x323, 0x301, 0x61, 0x324, 0x302)
	mustPut(t, []int{0x61, 0x301, 0x323, 0x62, 0x63, 0x345, 0x334, 0x64}, 0x61, 0x323, 0x301, 0x62, 0x63, 0x334, 0x345, 0x64)
	mustPut(t, []int{0x345, 0x301, 0x327, 0x334, 0x62, 0x302, 0x328, 0x303}, 0x334, 0x327, 0x301, 0x345, 0x62, 0x328, 0x302, 0x303)
	mustPut(t, []int{0x61, 0x323, 0x301, 0x62, 0x301, 0x323}, 0x61, 0x323, 0x301, 0x62, 0x323, 0x301)
	mustPut(t, []int{0x61, 0x301, 0x323, 0x62, 0x323, 0x301}, 0x61, 0x323, 0x301, 0x62, 0x323, 0x301)
}

// P9.1, P9.2: what stands in different runs is not compared, and nothing moves across a number of class 0.
func TestNothingMovesAcrossClass0(t *testing.T) {
	mustStay(t, 0x301, 0x61, 0x323)
	mustStay(t, 0x345, 0x61, 0x301, 0x62, 0x323, 0x63, 0x334)
	mustStay(t, 0x345, 0, 0x334)
	mustStay(t, 0x301, 0x34F, 0x323)
	mustStay(t, 0x301, 0x31A, 0x323)
	mustStay(t, 0x301, 0xAC00, 0x323)
	mustStay(t, 0x301, 0x1EA4, 0x323)
	mustPut(t, []int{0x302, 0x301, 0x323, 0x34F, 0x324, 0x334}, 0x323, 0x302, 0x301, 0x34F, 0x334, 0x324)
}

// P9.1: numbers of class 0 stay where they are, in whatever order.
func TestNumbersOfClass0(t *testing.T) {
	mustStay(t, 0x63, 0x62, 0x61)
	mustStay(t, 0x61, 0x61, 0x62)
	mustStay(t, 0x10FFFF, 0x4E00, 0xAC01, 0x34F, 0x2FF, 0x31A, 0)
	mustStay(t, 0x323, 0x61, 0x62)
	mustStay(t, 0x345, 0x62, 0x61)
}

// P9.1: nothing is decomposed or composed.
func TestOnlyTheOrderChanges(t *testing.T) {
	mustPut(t, []int{0xC0, 0x340, 0x323, 0x344, 0x324}, 0xC0, 0x323, 0x324, 0x340, 0x344)
	mustPut(t, []int{0x41, 0x302, 0x323}, 0x41, 0x323, 0x302)
	mustStay(t, 0x41, 0x300)
	mustStay(t, 0x1100, 0x1161, 0x11A8)
	mustStay(t, 0xFB03, 0xAC01, 0x2000)
}

// noScalars are numbers that are no scalars, among them those that are the same as a mark but for bits that a smaller number does not have.
func noScalars() []int {
	l := []int{
		math.MinInt, math.MinInt + 1, math.MinInt32, -1 << 40, -0x345, -0x301, -2, -1,
		0xD800, 0xD801, 0xDBFF, 0xDC00, 0xDFFE, 0xDFFF,
		api.MaxScalar + 1, api.MaxScalar + 2, math.MaxInt32, math.MaxInt32 + 1, 1 << 40, 1 << 62, math.MaxInt - 1, math.MaxInt,
	}
	for _, c := range []int{0x301, 0x323, 0x334, 0x345} {
		for _, shift := range []int{21, 31, 32, 48, 62, 63} {
			l = append(l, c+1<<shift, c-1<<shift)
		}
	}
	return l
}

// P9.1, R1, R5: any number that is no scalar is of class 0: it stays, and nothing moves across it.
func TestNumbersThatAreNoScalars(t *testing.T) {
	for _, c := range noScalars() {
		mustStay(t, c)
		mustStay(t, 0x301, c)
		mustStay(t, c, 0x301)
		mustStay(t, 0x301, c, 0x323)
		mustStay(t, 0x345, c, c, 0x334)
		mustPut(t, []int{c, 0x301, 0x323, c, 0x345, 0x334}, c, 0x323, 0x301, c, 0x334, 0x345)
		mustPut(t, []int{0x301, 0x323, c}, 0x323, 0x301, c)
	}
	mustStay(t, noScalars()...)
}

// longRun returns count different pairs of marks of classes 230 and 220, of which the greater class stands first, and what they are in order.
func longRun(count int) (s, want []int) {
	var above []int
	for i := range count {
		s = append(s, 0x300+i%0x15, 0x329+i%11)
		above = append(above, 0x300+i%0x15)
		want = append(want, 0x329+i%11)
	}
	return s, append(want, above...)
}

// P9.1, R1: long runs, of one class, in reverse order, in order but for the last mark, and of two classes in turn.
func TestLongRuns(t *testing.T) {
	const count = 100000
	same := slices.Repeat([]int{0x302, 0x300, 0x301, 0xFE20}, count/4)
	below := slices.Repeat([]int{0x324, 0x325, 0x323}, count/4)
	mustStay(t, same...)
	mustStay(t, slices.Concat(below, same)...)
	mustPut(t, slices.Concat(same, below), slices.Concat(below, same)...)
	mustPut(t, slices.Concat(same, []int{0x334}), slices.Concat([]int{0x334}, same)...)
	mustPut(t, slices.Concat([]int{0x345}, same), slices.Concat(same, []int{0x345})...)
	s, want := longRun(count / 2)
	mustPut(t, s, want...)
	mustPut(t, slices.Concat([]int{0x61}, s, []int{0x62}, s), slices.Concat([]int{0x61}, want, []int{0x62}, want)...)
}

// P9.1, R1: a long list of short runs.
func TestManyRuns(t *testing.T) {
	const times = 50000
	mustPut(t, slices.Repeat([]int{0x61, 0x301, 0x323, 0x300}, times), slices.Repeat([]int{0x61, 0x323, 0x301, 0x300}, times)...)
	mustStay(t, slices.Repeat([]int{0x345, 0x61, 0x334, 0x62}, times)...)
}

// spoil changes l, its spare capacity too.
func spoil(l []int) {
	full := l[:cap(l)]
	for i := range full {
		full[i] = 0x334
	}
}

// lists are a few lists, in canonical order and not.
func lists() [][]int {
	return [][]int{
		{}, {0x61}, {0x301}, {-1}, {0x61, 0x323, 0x301}, {0x61, 0x301, 0x323}, {0x61, 0x62, 0x63},
		{0x301, 0x61, 0x323}, {0x345, 0x301, 0x300, 0x323, 0x62, 0x302, 0x327}, {1 << 40, 0x301, 0x323, 0xD800},
	}
}

// R2: a result that is changed afterwards, its spare capacity too, changes neither the argument nor another result.
func TestResultsAreNewMemory(t *testing.T) {
	for _, s := range lists() {
		kept := slices.Clone(s)
		first, second := order.Put(s), order.Put(s)
		want := slices.Clone(first)
		spoil(first)
		if !slices.Equal(second, want) {
			t.Errorf("%#x: two results share memory", kept)
		}
		if !slices.Equal(s, kept) {
			t.Errorf("%#x: the result shares memory with the argument, now %#x", kept, s)
		}
		mustPut(t, kept, want...)
	}
}

// R2: a result of what is in order already shares no memory with it either, nor does its spare capacity.
func TestResultsOfOrderedAreNewMemory(t *testing.T) {
	for _, s := range lists() {
		ordered := append(order.Put(s), 0x61)[:len(s)]
		kept := slices.Clone(ordered[:cap(ordered)])
		spoil(order.Put(ordered))
		if !slices.Equal(ordered[:cap(ordered)], kept) {
			t.Errorf("the result shares memory with the argument: %#x is now %#x", kept, ordered[:cap(ordered)])
		}
	}
}

// R2, R6: an argument stays as it is, and what stands behind its length is not read; one that is changed afterwards does not change the result.
func TestArgumentStays(t *testing.T) {
	for _, s := range lists() {
		whole := append(slices.Clone(s), 0x334, 0x345, 0x61, 0x301, 0x323)
		kept := slices.Clone(whole)
		want, is := order.Put(slices.Clone(s)), order.Is(slices.Clone(s))
		got := order.Put(whole[:len(s)])
		if order.Is(whole[:len(s)]) != is {
			t.Errorf("Is(%#x) reads behind the length", s)
		}
		if !slices.Equal(whole, kept) {
			t.Errorf("%#x was changed into %#x", kept, whole)
		}
		spoil(whole)
		if !slices.Equal(got, want) {
			t.Errorf("Put(%#x) = %#x; want %#x", s, got, want)
		}
	}
}

// R3: calls in turn and from several goroutines at once do not disturb each other.
func TestCallsAtOnce(t *testing.T) {
	shared := []int{0x61, 0x301, 0x323}
	var group sync.WaitGroup
	for range 8 {
		group.Go(func() {
			for range 50 {
				mustPut(t, shared, 0x61, 0x323, 0x301)
				mustPut(t, []int{0x345, 0x334, 0x62, 0x302, 0x301}, 0x334, 0x345, 0x62, 0x302, 0x301)
				mustStay(t, 0x345, 0x61, 0x334)
			}
		})
	}
	group.Wait()
}
