package attr

import (
	"testing"

	"sobriquet/api"
)

// R6: of several types that fit the first one is taken; R4: of none, the zero value.
func TestFirst(t *testing.T) {
	l := []api.Attr{{Name: "A", Rule: 1}, {Name: "B", Rule: 2}, {Name: "C", Rule: 1}, {Name: "D", Rule: 2}}
	for rule, want := range map[int]string{1: "A", 2: "B", 3: ""} {
		a, found := first(l, func(a api.Attr) bool { return a.Rule == rule })
		if a.Name != want || found != (want != "") {
			t.Errorf("the first one with the rule %d is %v, %t", rule, a, found)
		}
	}
	if a, found := first(nil, func(api.Attr) bool { return true }); a.Name != "" || a.Rule != 0 || a.Oid != nil || a.Kinds != nil || found {
		t.Errorf("the first one of none is %v, %t", a, found)
	}
}

// P22.1: of all pairs of bytes only those are the same that are equal or one letter from A to Z in both cases.
func TestSameNameOfOneByte(t *testing.T) {
	for x := range 256 {
		for y := range 256 {
			want := x == y || x-y == 0x20 && 0x61 <= x && x <= 0x7A || y-x == 0x20 && 0x41 <= x && x <= 0x5A
			if got := sameName(string([]byte{byte(x)}), string([]byte{byte(y)})); got != want {
				t.Errorf("%#x and %#x: %t", x, y, got)
			}
		}
	}
}

// P22.1: all bytes count, and so does the length.
func TestSameName(t *testing.T) {
	for _, x := range []struct {
		a, b string
		want bool
	}{
		{"", "", true}, {"", "A", false}, {"A", "", false}, {"AB", "A", false}, {"A", "AB", false}, {"AB", "ab", true}, {"aB", "Ab", true},
		{"ABC", "XBC", false}, {"ABC", "AXC", false}, {"ABC", "ABX", false}, {"azAZ", "AZaz", true}, {"\u00C0", "\u00E0", false}, {"\u00C0x", "\u00C0X", true}, {"\u212A", "k", false}, {"K\x00\x00", "\u212A", false},
	} {
		if got := sameName(x.a, x.b); got != x.want {
			t.Errorf("%+q and %+q: %t", x.a, x.b, got)
		}
	}
}
