package ucd

import (
	"slices"
	"testing"

	"sobriquet/api"
)

// R6: of several rows with the same key the first one is found; R4: of none, the zero value.
func TestFindTakesTheFirstRow(t *testing.T) {
	l := []api.Map{{From: 5, To: []int{1}}, {From: 7, To: []int{2}}, {From: 5, To: []int{3}}}
	for c, want := range map[int][]int{5: {1}, 7: {2}, 6: nil} {
		m, known := mappings(l).find(c)
		if known != (want != nil) || !slices.Equal(m.To, want) {
			t.Errorf("find(%d) = %v, %v", c, m, known)
		}
	}
}

// A table without rows has nothing to find.
func TestFindInNothing(t *testing.T) {
	x, known := table[decomposition, [2]int]{nil, parts}.find([2]int{0, 0})
	if known || x != (decomposition{}) {
		t.Errorf("find = %v, %v", x, known)
	}
}

// P6.1: a decomposition is composed again only if it has two scalars, it is not excluded, and it and its first scalar have the class 0.
func TestComposed(t *testing.T) {
	excluded := []int{90, 91}
	classes := []api.Range{{From: 50, To: 59, Value: 1}, {From: 60, To: 69, Value: 230}}
	for _, x := range []struct {
		row  decomposition
		want bool
	}{
		{decomposition{10, 20, 30}, true},
		{decomposition{10, 20, 60}, true},
		{decomposition{10, 20, 90}, true},
		{decomposition{10, 90, 30}, true},
		{decomposition{10, 20, 0}, false},
		{decomposition{90, 20, 30}, false},
		{decomposition{91, 20, 30}, false},
		{decomposition{50, 20, 30}, false},
		{decomposition{69, 20, 30}, false},
		{decomposition{10, 50, 30}, false},
		{decomposition{10, 69, 30}, false},
		{decomposition{49, 70, 30}, true},
	} {
		if got := composed([]decomposition{x.row}, excluded, classes); (len(got) == 1) != x.want {
			t.Errorf("%v: %v", x.row, got)
		}
	}
}
