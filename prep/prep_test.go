package prep_test

import (
	"math"
	"slices"
	"testing"

	"sobriquet/api"
	"sobriquet/norm"
	"sobriquet/prep"
)

// rules are the three rules by which strings are prepared.
var rules = []int{api.RuleIgnore, api.RuleIa5, api.RuleNumeric}

// noRules returns numbers that are none of the three rules: those near them, and far ones whose lowest bits are those of a rule.
func noRules() []int {
	l := []int{api.RuleNone, -1, -2, -3, 4, 5, 9, 77, math.MinInt, math.MinInt + 1, math.MinInt32, math.MaxInt32, math.MaxInt}
	for _, rule := range rules {
		for _, shift := range []int{3, 8, 16, 32, 62, 63} {
			l = append(l, rule+1<<shift)
		}
	}
	return l
}

// allRules returns the three rules and numbers that are none of them.
func allRules() []int {
	return append(noRules(), rules...)
}

// noScalars returns numbers that are no scalars, some of which have the lowest bits of scalars that Map would change.
func noScalars() []int {
	l := []int{math.MinInt, math.MinInt32, -0x110000, -0x20, -1, 0xD800, 0xDBFF, 0xDC00, 0xDFFF, api.MaxScalar + 1, 0x1FFFFF, 1 << 40, math.MaxInt}
	for _, c := range []int{0, 9, 0x20, 'A', 'a', 0xAD, 0xDF, 0x301} {
		for _, shift := range []int{21, 32, 48, 62} {
			l = append(l, c+1<<shift, c-1<<shift)
		}
	}
	return l
}

// scalars returns the scalars of text.
func scalars(text string) []int {
	var s []int
	for _, r := range text {
		s = append(s, int(r))
	}
	return s
}

// around returns lists that have c alone, first, in the middle, last and twice among the numbers a and b.
func around(a, c, b int) [][]int {
	return [][]int{{c}, {c, a, b}, {a, c, b}, {a, b, c}, {c, a, c}, {c, c}}
}

// mustMap checks what Map returns.
func mustMap(t *testing.T, s []int, rule int, want []int) {
	if got := prep.Map(s, rule); !slices.Equal(got, want) {
		t.Helper()
		t.Errorf("Map(%#x, %d) = %#x; want %#x", s, rule, got, want)
	}
}

// mustAllow checks what Allowed returns.
func mustAllow(t *testing.T, s []int, want bool) {
	if got := prep.Allowed(s); got != want {
		t.Helper()
		t.Errorf("Allowed(%#x) = %t", s, got)
	}
}

// mustSpace checks what Spaces returns.
func mustSpace(t *testing.T, s []int, rule int, want []int) {
	if got := prep.Spaces(s, rule); !slices.Equal(got, want) {
		t.Helper()
		t.Errorf("Spaces(%#x, %d) = %#x; want %#x", s, rule, got, want)
	}
}

// mustPrep checks that s is prepared as want.
func mustPrep(t *testing.T, s []int, rule int, want []int) {
	if got, ok := prep.Prep(s, rule); !ok || !slices.Equal(got, want) {
		t.Helper()
		t.Errorf("Prep(%#x, %d) = %#x, %t; want %#x", s, rule, got, ok, want)
	}
}

// mustNotPrep checks that s cannot be prepared, and that nothing stands beside the false.
func mustNotPrep(t *testing.T, s []int, rule int) {
	if got, ok := prep.Prep(s, rule); ok || len(got) > 0 {
		t.Helper()
		t.Errorf("Prep(%#x, %d) = %#x, %t; want nothing, false", s, rule, got, ok)
	}
}

// mustEqual checks what Equal returns, either way about.
func mustEqual(t *testing.T, a, b []int, rule int, same, ok bool) {
	for range 2 {
		if x, y := prep.Equal(a, b, rule); x != same || y != ok {
			t.Helper()
			t.Errorf("Equal(%#x, %#x, %d) = %t, %t; want %t, %t", a, b, rule, x, y, same, ok)
		}
		a, b = b, a
	}
}

// P21.1: the example of the chapter with each of the rules, and with rules that are none of them.
func TestExample(t *testing.T) {
	s := scalars(" A  b")
	mustPrep(t, s, api.RuleIgnore, scalars(" a  b "))
	mustPrep(t, s, api.RuleIa5, scalars(" a  b "))
	mustPrep(t, s, api.RuleNumeric, scalars("Ab"))
	mustEqual(t, s, scalars("a B  "), api.RuleIgnore, true, true)
	mustEqual(t, s, scalars("a B  "), api.RuleIa5, true, true)
	mustEqual(t, s, scalars("a B  "), api.RuleNumeric, false, true)
	mustEqual(t, s, scalars("A b  "), api.RuleNumeric, true, true)
	for _, rule := range noRules() {
		mustNotPrep(t, s, rule)
		mustNotPrep(t, nil, rule)
		mustNotPrep(t, scalars("  "), rule)
		mustEqual(t, s, s, rule, false, false)
		mustEqual(t, nil, nil, rule, false, false)
		mustEqual(t, s, []int{0xD800}, rule, false, false)
	}
}

// folded reports whether Map folds case by the rule.
func folded(rule int) bool {
	return rule == api.RuleIgnore || rule == api.RuleIa5
}

// P21.1: numbers with the property Nothing are removed by any rule.
func TestMapNothing(t *testing.T) {
	for _, r := range api.Nothing() {
		for c := r.From; c <= r.To; c++ {
			for _, rule := range allRules() {
				for _, s := range around('1', c, '-') {
					mustMap(t, s, rule, slices.DeleteFunc(slices.Clone(s), func(x int) bool { return x == c }))
				}
			}
		}
	}
}

// P21.1: numbers with the property Space become spaces by any rule, and a space stays one.
func TestMapSpace(t *testing.T) {
	for _, r := range append(api.Spaces(), api.Range{From: 0x20, To: 0x20, Value: 1}) {
		for c := r.From; c <= r.To; c++ {
			for _, rule := range allRules() {
				mustMap(t, []int{c}, rule, []int{0x20})
				mustMap(t, []int{c, '1', c, c, '-', c}, rule, scalars(" 1  - "))
			}
		}
	}
}

// P21.1: numbers that have a case folding are replaced by it with RuleIgnore and RuleIa5 only.
func TestMapFolds(t *testing.T) {
	for _, m := range api.Folds() {
		for _, rule := range allRules() {
			want := []int{m.From}
			if folded(rule) {
				want = m.To
			}
			mustMap(t, []int{m.From}, rule, want)
			mustMap(t, m.To, rule, m.To)
			mustMap(t, []int{'1', m.From, 0x20, m.From}, rule, slices.Concat([]int{'1'}, want, []int{0x20}, want))
		}
	}
}

// P21.1: texts of which some numbers are removed, some become spaces and some are folded, also to several scalars.
func TestMapTexts(t *testing.T) {
	for _, x := range []struct {
		s            []int
		ignore, keep string
	}{
		{nil, "", ""},
		{[]int{}, "", ""},
		{scalars("abc 123"), "abc 123", "abc 123"},
		{scalars("Straße"), "strasse", "Straße"},
		{scalars("ÀÉ Ω"), "àé ω", "ÀÉ Ω"},
		{scalars("ΑΣΑΣ ας"), "ασασ ασ", "ΑΣΑΣ ας"},
		{[]int{0x130, 0x149}, "i\u0307\u02BCn", "\u0130\u0149"},
		{[]int{0xFB03, 0xFB05, 0xFB06}, "ffistst", "\uFB03\uFB05\uFB06"},
		{[]int{0x2122, 0x212A, 0x212B}, "tmk\u00E5", "\u2122\u212A\u212B"},
		{[]int{0xFF21, 0xFF41}, "\uFF41\uFF41", "\uFF21\uFF41"},
		{[]int{'A', 0, 9, 0xDF, 0x85, 0x200B}, "a ss ", "A \u00DF "},
		{[]int{0xAD, 0xFEFF, 0x1F, 0x7F}, "", ""},
		{[]int{0xA0, 0x3000, 0x20, 0x2028, '\n', '\r', '\n'}, "       ", "       "},
		{[]int{'A', 0x300, 0xA8, 0xFB00}, "a\u0300\u00A8ff", "A\u0300\u00A8\uFB00"},
		{[]int{0x340, 0xE000, 0x221, 0x1160}, "\u0340\uE000\u0221\u1160", "\u0340\uE000\u0221\u1160"},
	} {
		for _, rule := range allRules() {
			if folded(rule) {
				mustMap(t, x.s, rule, scalars(x.ignore))
			} else {
				mustMap(t, x.s, rule, scalars(x.keep))
			}
		}
	}
}

// P21.1, R1: numbers that are no scalars stay.
func TestMapNoScalars(t *testing.T) {
	for _, rule := range allRules() {
		mustMap(t, noScalars(), rule, noScalars())
		for _, c := range noScalars() {
			for _, s := range around('1', c, '-') {
				mustMap(t, s, rule, s)
			}
			mustMap(t, []int{0xAD, c, 9, 'a', c, 0xAD}, rule, []int{c, 0x20, 'a', c})
		}
	}
}

// P21.1: lists without a number that is prohibited.
func TestAllowed(t *testing.T) {
	for _, s := range [][]int{
		nil, {}, {0}, {0x20}, scalars("aé水"), {0xAD}, {0xFEFF}, {0x301}, {' ', 0x301}, {0x220, 0x222}, {0x33F, 0x342},
		{0xFFF9, 0xFFFC}, {0x1100, 0xAC00, 0xD7A3}, {0x10300, 0x1031E}, {0xE007F}, slices.Repeat([]int{'a', 0x4E00}, 3000),
	} {
		mustAllow(t, s, true)
	}
}

// P21.1: a number that is not assigned, prohibited or no scalar, alone, first, in the middle and last.
func TestNotAllowed(t *testing.T) {
	prohibited := []int{
		0x221, 0x234, 0x24F, 0x487, 0x1031F, 0x1D172, 0xE0000, 0xFFFE, 0xFFFF, 0x9FA6, 0xABFF, 0xD7A4, 0xFFFFE, 0xFFFFF, 0x10FFFE, 0x10FFFF,
		0x340, 0x341, 0xE000, 0xF8FF, 0xFFFD, 0xF0000, 0xFFFFD, 0x100000, 0x10FFFD,
	}
	for _, c := range append(noScalars(), prohibited...) {
		for _, s := range around('a', c, 0x20) {
			mustAllow(t, s, false)
		}
		mustAllow(t, append(slices.Repeat([]int{'a'}, 1000), c), false)
		mustAllow(t, append([]int{c}, slices.Repeat([]int{'a'}, 1000)...), false)
	}
}

// P21.1: Spaces for texts, with RuleNumeric and with all other rules, also those that are none of the three.
func TestSpaces(t *testing.T) {
	for _, x := range []struct{ text, words, numeric string }{
		{"", "  ", ""},
		{" ", "  ", ""},
		{"  ", "  ", ""},
		{"       ", "  ", ""},
		{"a", " a ", "a"},
		{" a", " a ", "a"},
		{"a ", " a ", "a"},
		{"  a  ", " a ", "a"},
		{"    a   ", " a ", "a"},
		{"ab", " ab ", "ab"},
		{"a b", " a  b ", "ab"},
		{"a  b", " a  b ", "ab"},
		{"a   b", " a  b ", "ab"},
		{"a     b", " a  b ", "ab"},
		{" a b  c   d    e ", " a  b  c  d  e ", "abcde"},
		{"ab cd", " ab  cd ", "abcd"},
		{"A ß", " A  ß ", "Aß"},
		// A space with a mark on it is a character of its own.
		{" \u0301", "  \u0301 ", " \u0301"},
		{"  \u0301", "  \u0301 ", " \u0301"},
		{"     \u0301", "  \u0301 ", " \u0301"},
		{" \u0301 ", "  \u0301 ", " \u0301"},
		{" \u0301   ", "  \u0301 ", " \u0301"},
		{" \u0301\u0301", "  \u0301\u0301 ", " \u0301\u0301"},
		{"a \u0301", " a \u0301 ", "a \u0301"},
		{"a  \u0301", " a   \u0301 ", "a \u0301"},
		{"a    \u0301", " a   \u0301 ", "a \u0301"},
		{"a \u0301b", " a \u0301b ", "a \u0301b"},
		{"a \u0301 b", " a \u0301  b ", "a \u0301b"},
		{"a  \u0301  b", " a   \u0301  b ", "a \u0301b"},
		{" \u0301 \u0301", "  \u0301 \u0301 ", " \u0301 \u0301"},
		{" \u0301  \u0301", "  \u0301   \u0301 ", " \u0301 \u0301"},
		{" a\u0301 ", " a\u0301 ", "a\u0301"},
		{"\u0301", " \u0301 ", "\u0301"},
		{"\u0301 ", " \u0301 ", "\u0301"},
		{"\u0301 a", " \u0301  a ", "\u0301a"},
		// Other spaces are none here, nor do foldings or forms matter.
		{"\u00A0a\u00A0\u00A0b\u3000", " \u00A0a\u00A0\u00A0b\u3000 ", "\u00A0a\u00A0\u00A0b\u3000"},
		{"\ta\t \tb", " \ta\t  \tb ", "\ta\t\tb"},
		{"a \u00ADb", " a  \u00ADb ", "a\u00ADb"},
		{"\uFB01 \u00B4", " \uFB01  \u00B4 ", "\uFB01\u00B4"},
	} {
		for _, rule := range allRules() {
			if rule == api.RuleNumeric {
				mustSpace(t, scalars(x.text), rule, scalars(x.numeric))
			} else {
				mustSpace(t, scalars(x.text), rule, scalars(x.words))
			}
		}
	}
	for _, rule := range allRules() {
		if rule != api.RuleNumeric {
			mustSpace(t, []int{}, rule, []int{0x20, 0x20})
		}
	}
	mustSpace(t, []int{}, api.RuleNumeric, nil)
}

// P21.1, R1: numbers that are no scalars are neither spaces nor marks.
func TestSpacesNoScalars(t *testing.T) {
	for _, c := range noScalars() {
		mustSpace(t, []int{' ', c, ' ', ' ', c, ' '}, api.RuleIgnore, []int{' ', c, ' ', ' ', c, ' '})
		mustSpace(t, []int{c, ' ', c, ' ', 0x301}, api.RuleNone, []int{' ', c, ' ', ' ', c, ' ', 0x301, ' '})
		mustSpace(t, []int{' ', c, ' ', ' ', c, ' '}, api.RuleNumeric, []int{c, c})
	}
}

// P21.1: a number of any class other than 0 makes a character of the space directly ahead of it; one beside the marks does not.
func TestSpacesMarks(t *testing.T) {
	classes := map[int]int{}
	for _, r := range api.Classes() {
		for c := r.From; c <= r.To; c++ {
			classes[c] = r.Value
		}
	}
	for c := range 0x10000 {
		words, numeric := []int{' ', 'a', ' ', ' ', c, ' '}, []int{'a', c}
		if classes[c] != 0 {
			words, numeric = []int{' ', 'a', ' ', ' ', ' ', c, ' '}, []int{'a', ' ', c}
		}
		if c == ' ' {
			words, numeric = []int{' ', 'a', ' '}, []int{'a'}
		}
		s := []int{' ', 'a', ' ', ' ', c, ' '}
		mustSpace(t, s, api.RuleIgnore, words)
		mustSpace(t, s, api.RuleNumeric, numeric)
	}
}

// P21.1: texts that are prepared, with RuleIgnore (and so RuleIa5) and with RuleNumeric.
func TestPrep(t *testing.T) {
	for _, x := range []struct {
		s               []int
		ignore, numeric string
	}{
		{nil, "  ", ""},
		{[]int{}, "  ", ""},
		{scalars("   "), "  ", ""},
		{[]int{0xAD, 0x200B, 0xFEFF}, "  ", ""},
		{[]int{0xA0, 0xAD, 0x3000}, "  ", ""},
		{scalars("1 2  3"), " 1  2  3 ", "123"},
		{scalars("A 1"), " a  1 ", "A1"},
		{scalars("Straße"), " strasse ", "Straße"},
		{[]int{'a', 0xAD, 'b', 9, 0xA0, 0x3000, 'c'}, " ab  c ", "abc"},
		{[]int{0xFB01, 0x212B}, " fi\u00E5 ", "fi\u00C5"},
		{[]int{'A', 0x301}, " \u00E1 ", "\u00C1"},
		{[]int{'a', 0x323, 0x302}, " \u1EAD ", "\u1EAD"},
		{[]int{0xFF21, 0x2122}, " atm ", "ATM"},
		{[]int{0x2460, 0xBD}, " 11\u20442 ", "11\u20442"},
		{[]int{0x1112, 0x1175}, " \uD788 ", "\uD788"},
		{[]int{0xFF76, 0xFF9E}, " \u30AC ", "\u30AC"},
		{[]int{'a', ' ', 0x301, ' ', 'b'}, " a \u0301  b ", "a \u0301b"},
		// A number that is removed does not part a space and a mark, nor a letter and a mark.
		{[]int{'a', ' ', 0xAD, 0x301}, " a \u0301 ", "a \u0301"},
		{[]int{'a', 0xAD, 0x301}, " \u00E1 ", "\u00E1"},
		{[]int{'a', 9, 0x301}, " a \u0301 ", "a \u0301"},
		// What only a compatibility form makes a space: here of characters that stand for a mark.
		{[]int{0xB4}, "  \u0301 ", " \u0301"},
		{[]int{'a', 0xA8, ' ', 'b'}, " a \u0308  b ", "a \u0308b"},
		{[]int{' ', 0xAF}, "  \u0304 ", " \u0304"},
		{[]int{'a', ' ', 0xB8}, " a   \u0327 ", "a \u0327"},
		{[]int{' ', 0xFF9E}, "  \u3099 ", " \u3099"},
		// The forms of U+0340 and U+0341 decide: they are not prohibited.
		{[]int{0x340}, " \u0300 ", "\u0300"},
		{[]int{0x341}, " \u0301 ", "\u0301"},
		{[]int{'a', 0x340}, " \u00E0 ", "\u00E0"},
		{[]int{'A', 0x341, ' ', 0x341}, " \u00E1 \u0301 ", "\u00C1 \u0301"},
		{[]int{0x344}, " \u0308\u0301 ", "\u0308\u0301"},
	} {
		mustPrep(t, x.s, api.RuleIgnore, scalars(x.ignore))
		mustPrep(t, x.s, api.RuleIa5, scalars(x.ignore))
		mustPrep(t, x.s, api.RuleNumeric, scalars(x.numeric))
		mustEqual(t, x.s, x.s, api.RuleIa5, true, true)
		for _, rule := range noRules() {
			mustNotPrep(t, x.s, rule)
		}
	}
}

// P21.1: strings that cannot be prepared, wherever the number stands that is prohibited.
func TestNotPrep(t *testing.T) {
	prohibited := []int{0x221, 0x234, 0xE000, 0xF8FF, 0xFFFD, 0xFFFE, 0xFFFF, 0xF0000, 0x10FFFD, 0x10FFFF, 0x1031F}
	for _, c := range append(noScalars(), prohibited...) {
		for _, rule := range append([]int{api.RuleNone, -1}, rules...) {
			for _, s := range around('a', c, ' ') {
				mustNotPrep(t, s, rule)
				mustEqual(t, s, s, rule, false, false)
			}
			mustNotPrep(t, []int{0xAD, c, 0x301}, rule)
		}
	}
}

// P21.1: Prep takes the steps in their order, each on the result of the one before.
func TestSteps(t *testing.T) {
	for _, s := range [][]int{
		nil, scalars(" A  b"), {0xB4, ' ', 0xC5, 0xAD, 0x2003, 0x301}, {0x340, 0x221}, {0x340, 'x', 0xE9}, {0x385, 0x2000, 0xFB05},
		{0x1112, 0x1175, 0xAC00, 0x11A8, 0x2126}, {'a', 0x315, 0x300, 0x5B0, 0x345}, {0xFF0C, 0xFF21, 0xFFFD}, {0x132, 0xBE, 0x2026},
	} {
		for _, rule := range rules {
			form := norm.Form(prep.Map(s, rule), true)
			if prep.Allowed(form) {
				mustPrep(t, s, rule, prep.Spaces(form, rule))
			} else {
				mustNotPrep(t, s, rule)
			}
		}
	}
}

// P21.1: Equal of strings that are the same when prepared, of those that are not, and of those of which one or both cannot be prepared.
func TestEqual(t *testing.T) {
	for _, x := range []struct {
		a, b                  []int
		ignore, numeric, both bool
	}{
		{nil, nil, true, true, true},
		{nil, scalars("   "), true, true, true},
		{nil, scalars("a"), false, false, true},
		{scalars("a"), scalars("a"), true, true, true},
		{scalars("a"), scalars("A"), true, false, true},
		{scalars("a"), scalars("b"), false, false, true},
		{scalars("a"), scalars("ab"), false, false, true},
		{scalars("a  b"), scalars(" a b "), true, true, true},
		{scalars("a b"), scalars("ab"), false, true, true},
		{scalars("a b c"), scalars("ab c"), false, true, true},
		{scalars("a b"), scalars("b a"), false, false, true},
		{[]int{0x212B}, scalars("å"), true, false, true},
		{[]int{0x212B}, scalars("Å"), true, true, true},
		{scalars("é"), scalars("e"), false, false, true},
		{[]int{0xB4}, []int{' ', 0x301}, true, true, true},
		{[]int{' ', 0x301}, []int{0x301}, false, false, true},
		{[]int{0x340}, []int{0x300}, true, true, true},
		{scalars("a"), []int{0x221}, false, false, false},
		{nil, []int{-1}, false, false, false},
		{[]int{0xE000}, []int{0xE000}, false, false, false},
		{[]int{0xD800}, []int{0x110000}, false, false, false},
		{[]int{'a', 0xFFFD}, []int{'a'}, false, false, false},
	} {
		mustEqual(t, x.a, x.b, api.RuleIgnore, x.ignore, x.both)
		mustEqual(t, x.a, x.b, api.RuleIa5, x.ignore, x.both)
		mustEqual(t, x.a, x.b, api.RuleNumeric, x.numeric, x.both)
		mustEqual(t, x.a, x.b, api.RuleNone, false, false)
	}
}
