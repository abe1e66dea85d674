package norm

import (
	"slices"
	"testing"

	"sobriquet/api"
)

// P11.1: every mark with which a row of the table Canon is composed is the second number of a pair. With the given tables each of them has a class too, so that Quick alone does not tell.
func TestSecondNumbers(t *testing.T) {
	x := newPairs(api.Canon())
	want := []int{0x300, 0x301, 0x302, 0x303, 0x304, 0x306, 0x307, 0x308, 0x30A, 0x30B, 0x30C, 0x323, 0x327, 0x328, 0x3099, 0x309A}
	for c := -0x400; c <= api.MaxScalar+0x400; c++ {
		if got := x.isSecond(c); got != slices.Contains(want, c) {
			t.Errorf("isSecond(%#x) = %t", c, got)
		}
	}
}

// P11.1: what only excluded rows have second is not the second number of a pair, nor is U+0000, which stands for none.
func TestNoSecondNumbers(t *testing.T) {
	x := newPairs(api.Canon())
	for _, c := range []int{0, 0x93C, 0x5B4, 0x5C1, 0x5C2} {
		if x.isSecond(c) {
			t.Errorf("isSecond(%#x) = true", c)
		}
	}
	if len(x[0]) != 0 {
		t.Errorf("%#x stand ahead of U+0000", x[0])
	}
}

// P11.1: a second number is one if any of its rows is composed, the first or the last one.
func TestAnyRowOfASecondNumber(t *testing.T) {
	for _, rows := range [][][3]int{
		{{0xC1, 0x41, 0x301}, {0x344, 0x308, 0x301}},
		{{0x344, 0x308, 0x301}, {0xC1, 0x41, 0x301}},
		{{0x344, 0x308, 0x301}, {0xC1, 0x41, 0x301}, {0x341, 0x301, 0}},
	} {
		x := newPairs(rows)
		if !x.isSecond(0x301) || !x.mayMove(0x301) {
			t.Errorf("%#x: U+0301 is no second number", rows)
		}
		if x.isSecond(0) || x.isSecond(0x41) || x.isSecond(0x300) {
			t.Errorf("%#x: another number is a second one too", rows)
		}
	}
	if newPairs([][3]int{{0x344, 0x308, 0x301}}).isSecond(0x301) {
		t.Error("U+0301 is a second number by an excluded row alone")
	}
}
