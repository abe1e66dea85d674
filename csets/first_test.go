package csets

import (
	"math"
	"testing"

	"sobriquet/api"
)

// R6: of several items that fit the first one is taken; R4: of none, the zero value.
func TestFirst(t *testing.T) {
	l := []api.Code{{Set: 6, Place: 1, Scalar: 10}, {Set: 7, Place: 2, Scalar: 20}, {Set: 6, Place: 3, Scalar: 20}, {Set: 7, Place: 2, Scalar: 30}}
	for set, want := range map[int]api.Code{6: l[0], 7: l[1], 8: {}} {
		x, found := first(l, func(x api.Code) bool { return x.Set == set })
		if x != want || found != (want != api.Code{}) {
			t.Errorf("the first one of set %d is %v, %v", set, x, found)
		}
	}
	for scalar, want := range map[int]api.Code{10: l[0], 20: l[1], 30: l[3], 40: {}} {
		x, found := first(l, func(x api.Code) bool { return x.Scalar == scalar })
		if x != want || found != (want != api.Code{}) {
			t.Errorf("the first one with %d is %v, %v", scalar, x, found)
		}
	}
	if x, found := first(nil, func(accent) bool { return true }); x != (accent{}) || found {
		t.Errorf("the first one of none is %v, %v", x, found)
	}
}

// P16.1, R6: of several sets with one final byte the first one is named that is wide or not, as asked for.
func TestNamedTakesTheFirstSet(t *testing.T) {
	for _, x := range []struct {
		sets  []int
		final int
		wide  bool
		want  int
	}{
		{[]int{6, 87}, 0x42, false, 6},
		{[]int{87, 6}, 0x42, false, 6},
		{[]int{6, 87}, 0x42, true, 87},
		{[]int{87, 6}, 0x42, true, 87},
		{[]int{102, 6, 6, 87}, 0x42, false, 6},
		{[]int{6, 102}, 0x42, true, 0},
		{[]int{87, 102}, 0x42, false, 0},
		{[]int{126, 103}, 0x76, false, 103},
		{[]int{126}, 0x76, false, 0},
		{nil, 0x76, false, 0},
	} {
		if set, found := named(x.sets, x.final, x.wide); set != x.want || found != (x.want != 0) {
			t.Errorf("of %v, final byte %#x, wide %t: %d, %t; want %d", x.sets, x.final, x.wide, set, found, x.want)
		}
	}
}

// P16.1: the final byte 0 names no set, not even one that is not supported.
func TestNamedWithoutFinal(t *testing.T) {
	for _, set := range []int{-1, 0, 1, 5, 7, 86, 88, 104, 6, 87, 103, math.MinInt, math.MaxInt} {
		for _, wide := range []bool{false, true} {
			if got, found := named([]int{set}, 0, wide); got != 0 || found {
				t.Errorf("of %d, final byte 0: %d, %t", set, got, found)
			}
		}
	}
}
