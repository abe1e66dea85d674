package order_test

import (
	"cmp"
	"slices"
	"testing"

	"sobriquet/api"
	"sobriquet/order"
)

// classes returns the classes of the table Classes, mark by mark.
func classes() map[int]int {
	found := map[int]int{}
	for _, r := range api.Classes() {
		for c := r.From; c <= r.To; c++ {
			found[c] = r.Value
		}
	}
	return found
}

// marks returns all numbers of class, in ascending order.
func marks(class map[int]int) []int {
	var l []int
	for c := range class {
		l = append(l, c)
	}
	slices.Sort(l)
	return l
}

// oneOfEach returns one mark of each class, in ascending order of the classes.
func oneOfEach(class map[int]int) []int {
	known := map[int]bool{}
	var l []int
	for _, c := range marks(class) {
		if !known[class[c]] {
			known[class[c]] = true
			l = append(l, c)
		}
	}
	slices.SortFunc(l, func(a, b int) int { return cmp.Compare(class[a], class[b]) })
	return l
}

// exchanged returns s after all exchanges of neighbours of which the first one has the greater class and the second one a class other than 0.
func exchanged(class map[int]int, s []int) []int {
	l := slices.Clone(s)
	for again := true; again; {
		again = false
		for i := 1; i < len(l); i++ {
			if a, b := class[l[i-1]], class[l[i]]; b != 0 && a > b {
				l[i-1], l[i] = l[i], l[i-1]
				again = true
			}
		}
	}
	return l
}

// mustExchange checks both calls for s against exchanges of neighbours.
func mustExchange(t *testing.T, class map[int]int, s ...int) {
	t.Helper()
	mustPut(t, s, exchanged(class, s)...)
}

// eachList calls f with every list of so many numbers of a choice.
func eachList(choice, l []int, count int, f func([]int)) {
	if len(l) == count {
		f(l)
		return
	}
	for _, c := range choice {
		eachList(choice, append(l[:len(l):len(l)], c), count, f)
	}
}

// eachOrder calls f with l in every order of its numbers.
func eachOrder(first, l []int, f func([]int)) {
	if len(l) == 0 {
		f(first)
		return
	}
	for i, c := range l {
		eachOrder(append(first[:len(first):len(first)], c), slices.Concat(l[:i], l[i+1:]), f)
	}
}

// P9.1: marks of different classes, in every order, alone and between numbers of class 0.
func TestEveryOrderOfMarks(t *testing.T) {
	want := []int{0x334, 0x93C, 0x327, 0x31B, 0x323, 0x301, 0x345}
	eachOrder(nil, want, func(l []int) {
		mustPut(t, l, want...)
		mustPut(t, slices.Concat([]int{0x61}, l, []int{0x62}), slices.Concat([]int{0x61}, want, []int{0x62})...)
	})
}

// P9.1: marks of which some are of one class, in every order.
func TestEveryOrderOfMarksOfOneClass(t *testing.T) {
	class := classes()
	eachOrder(nil, []int{0x300, 0x301, 0x302, 0x323, 0x324, 0x345}, func(l []int) {
		mustExchange(t, class, l...)
	})
}

// P9.1: all lists of a few numbers: marks of three classes, of which one has two, a scalar of class 0, and a number that is no scalar.
func TestEveryShortList(t *testing.T) {
	class := classes()
	for count := range 6 {
		eachList([]int{0x301, 0x323, 0x300, 0x334, 0x61, -1}, nil, count, func(l []int) {
			mustExchange(t, class, l...)
		})
	}
}

// P9.1: every mark ahead of every other one and of itself.
func TestEveryPairOfMarks(t *testing.T) {
	class := classes()
	all := marks(class)
	for _, a := range all {
		for _, b := range all {
			mustExchange(t, class, a, b)
		}
	}
}

// P9.1: a mark of each class in ascending order, in descending order, and each with two others.
func TestOneMarkOfEachClass(t *testing.T) {
	class := classes()
	all := oneOfEach(class)
	mustStay(t, all...)
	reverse := slices.Clone(all)
	slices.Reverse(reverse)
	mustPut(t, reverse, all...)
	eachList(all, nil, 3, func(l []int) {
		mustExchange(t, class, l...)
	})
}

// P9.1, P9.2: every number up to U+33FF, and those far above and below, between two marks that they part only if they are of class 0.
func TestEveryNumberBetweenMarks(t *testing.T) {
	class := classes()
	numbers := noScalars()
	for c := -0x400; c < 0x3400; c++ {
		numbers = append(numbers, c)
	}
	for c := 0x3400; c <= api.MaxScalar+0x1000; c += 61 {
		numbers = append(numbers, c)
	}
	for _, c := range numbers {
		mustExchange(t, class, 0x345, c, 0x334)
	}
}

// mixed returns count numbers in no order: marks, and numbers of class 0, of which one follows some ten marks.
func mixed(class map[int]int, count int) []int {
	choice := append(marks(class), 0x61, 0x4E00, 0x34F, 0xAC00, 0xC0, -1, 0xD800, 1<<40, 0x31A, 0, 0x2FF, 0x345+1<<32)
	l := make([]int, count)
	state := uint32(1)
	for i := range l {
		state = state*1664525 + 1013904223
		l[i] = choice[int(state>>8)%len(choice)]
	}
	return l
}

// P9.1: lists of marks and numbers of class 0 in no order, of many lengths.
func TestMixedLists(t *testing.T) {
	class := classes()
	s := mixed(class, 40000)
	for from, count := 0, 0; from+count <= len(s); from, count = from+count, (count+7)%300 {
		mustExchange(t, class, s[from:from+count]...)
	}
}

// runsOf returns the runs of s: pieces of marks alone, and pieces of one number of class 0 each.
func runsOf(class map[int]int, s []int) [][]int {
	var l [][]int
	previous := 0
	for _, c := range s {
		if class[c] == 0 || previous == 0 {
			l = append(l, nil)
		}
		l[len(l)-1] = append(l[len(l)-1], c)
		previous = class[c]
	}
	return l
}

// ofClass returns the numbers of l that have a class.
func ofClass(class map[int]int, l []int, value int) []int {
	return slices.DeleteFunc(slices.Clone(l), func(c int) bool { return class[c] != value })
}

// P9.2: Put moves nothing out of its run, and keeps the order of each class in it.
func TestRunsAreKept(t *testing.T) {
	class := classes()
	s := mixed(class, 5000)
	before, after := runsOf(class, s), runsOf(class, order.Put(s))
	if len(before) != len(after) {
		t.Fatalf("%d runs; before %d", len(after), len(before))
	}
	for i, run := range before {
		if len(after[i]) != len(run) {
			t.Fatalf("the run %#x became %#x", run, after[i])
		}
		for _, c := range run {
			if !slices.Equal(ofClass(class, run, class[c]), ofClass(class, after[i], class[c])) {
				t.Errorf("the run %#x became %#x, where class %d is in another order", run, after[i], class[c])
			}
		}
	}
}

// P9.2: Put leaves what it returned unchanged, and so it leaves every list that Is finds in order.
func TestPutOfPut(t *testing.T) {
	class := classes()
	for count := range 5 {
		eachList([]int{0x301, 0x302, 0x323, 0x345, 0x62, 1 << 40}, nil, count, func(s []int) {
			l := order.Put(s)
			if again := order.Put(l); !slices.Equal(again, l) || !order.Is(l) {
				t.Errorf("Put(%#x) = %#x; again %#x", s, l, again)
			}
			if order.Is(s) != slices.Equal(s, l) {
				t.Errorf("Is(%#x) = %t; Put returns %#x", s, order.Is(s), l)
			}
		})
	}
	l := order.Put(mixed(class, 100000))
	if again := order.Put(l); !slices.Equal(again, l) || !order.Is(l) {
		t.Error("Put of a long list is put in another order, or is not in order")
	}
}
