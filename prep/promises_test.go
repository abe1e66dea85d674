package prep_test

import (
	"runtime/debug"
	"slices"
	"sync"
	"testing"

	"sobriquet/api"
	"sobriquet/norm"
	"sobriquet/prep"
)

// TestMain lets memory be collected less often: each call makes tables that nothing keeps.
func TestMain(m *testing.M) {
	debug.SetGCPercent(2000)
	m.Run()
}

// tables is what the tables say of single numbers.
type tables struct {
	nothing, space, assigned, prohibited, class map[int]int
	folds                                       map[int][]int
}

// values returns the values of the ranges, number by number.
func values(l []api.Range) map[int]int {
	found := map[int]int{}
	for _, r := range l {
		for c := r.From; c <= r.To; c++ {
			found[c] = r.Value
		}
	}
	return found
}

// newTables returns what the tables say.
func newTables() tables {
	x := tables{values(api.Nothing()), values(api.Spaces()), values(api.Assigned()), values(api.Prohibited()), values(api.Classes()), map[int][]int{}}
	for _, m := range api.Folds() {
		x.folds[m.From] = m.To
	}
	return x
}

// step1 returns what Map has to return.
func (x tables) step1(s []int, rule int) []int {
	var l []int
	for _, c := range s {
		folding := x.folds[c]
		if x.nothing[c] != 0 {
			continue
		}
		if x.space[c] != 0 {
			c = 0x20
		}
		if len(folding) > 0 && folded(rule) {
			l = append(l, folding...)
		} else {
			l = append(l, c)
		}
	}
	return l
}

// step3 returns what Allowed has to return.
func (x tables) step3(s []int) bool {
	for _, c := range s {
		if c < 0 || c > 0x10FFFF || c >= 0xD800 && c <= 0xDFFF || x.assigned[c] == 0 || x.prohibited[c] != 0 {
			return false
		}
	}
	return true
}

// realSpace is what step4 puts for each space on which no mark stands, to tell it from those that are no spaces.
const realSpace = -1000

// step4 returns what Spaces has to return: the spaces are found first, and then taken away or added one by one.
func (x tables) step4(s []int, rule int) []int {
	l := slices.Clone(s)
	for i, c := range s {
		if c == 0x20 && (i == len(s)-1 || x.class[s[i+1]] == 0) {
			l[i] = realSpace
		}
	}
	if rule == api.RuleNumeric {
		return slices.DeleteFunc(l, func(c int) bool { return c == realSpace })
	}
	for len(l) > 0 && l[0] == realSpace {
		l = l[1:]
	}
	for len(l) > 0 && l[len(l)-1] == realSpace {
		l = l[:len(l)-1]
	}
	if len(l) == 0 {
		return []int{0x20, 0x20}
	}
	want := []int{0x20}
	for i, c := range l {
		switch {
		case c != realSpace:
			want = append(want, c)
		case l[i-1] != realSpace:
			want = append(want, 0x20, 0x20)
		}
	}
	return append(want, 0x20)
}

// mustBeAsTold checks all calls that take one string against the tables.
func (x tables) mustBeAsTold(t *testing.T, s []int, rule int) {
	t.Helper()
	mapped := x.step1(s, rule)
	mustMap(t, s, rule, mapped)
	mustAllow(t, s, x.step3(s))
	mustSpace(t, s, rule, x.step4(s, rule))
	form := norm.Form(mapped, true)
	if x.step3(form) && slices.Contains(rules, rule) {
		mustPrep(t, s, rule, x.step4(form, rule))
	} else {
		mustNotPrep(t, s, rule)
	}
}

// eachList calls f with every list of numbers of the choice that begins with l and fills its capacity.
func eachList(choice, l []int, f func([]int)) {
	if len(l) == cap(l) {
		f(l)
		return
	}
	for _, c := range choice {
		eachList(choice, append(l, c), f)
	}
}

// P21.1: Spaces for all lists of up to eight letters, spaces and marks.
func TestSpacesOfShortLists(t *testing.T) {
	x := newTables()
	var group sync.WaitGroup
	for _, rule := range append([]int{api.RuleNone, 1 << 40}, rules...) {
		group.Go(func() {
			for length := range 9 {
				eachList([]int{'a', ' ', 0x301}, make([]int, 0, length), func(s []int) {
					mustSpace(t, s, rule, x.step4(s, rule))
				})
			}
		})
	}
	group.Wait()
}

// P21.1: all calls for all lists of up to three of some numbers that are treated in different ways.
func TestShortLists(t *testing.T) {
	x := newTables()
	choice := []int{'A', 'a', ' ', 0x3000, 0xAD, 0x301, 0xB4, 0xDF, 0x340, 0xFB01, 0xFF9E, 0x221, -1}
	var group sync.WaitGroup
	for _, rule := range append([]int{api.RuleNone}, rules...) {
		for length := range 4 {
			group.Go(func() {
				eachList(choice, make([]int, 0, length), func(s []int) { x.mustBeAsTold(t, s, rule) })
			})
		}
	}
	group.Wait()
}

// named returns the numbers of the tables Canon, Compat and Folds, and of each range of the other tables both ends and the middle, with the numbers beside all of them.
func named() []int {
	var l []int
	for _, r := range slices.Concat(api.Nothing(), api.Spaces(), api.Assigned(), api.Prohibited(), api.Classes()) {
		l = append(l, r.From, r.To, (r.From+r.To)/2)
	}
	for _, row := range api.Canon() {
		l = append(l, row[:]...)
	}
	for _, m := range slices.Concat(api.Compat(), api.Folds()) {
		l = append(append(l, m.From), m.To...)
	}
	for _, c := range slices.Clone(l) {
		l = append(l, c-1, c+1)
	}
	slices.Sort(l)
	return slices.Compact(l)
}

// P21.1: all calls for numbers of the tables, alone and among spaces and letters.
func TestNumbersOfTheTables(t *testing.T) {
	x := newTables()
	var group sync.WaitGroup
	for _, rule := range rules {
		for part := range slices.Chunk(named(), 100) {
			group.Go(func() {
				for _, c := range part {
					x.mustBeAsTold(t, []int{c}, rule)
					x.mustBeAsTold(t, []int{'A', ' ', c, ' ', ' ', 'b'}, rule)
				}
			})
		}
	}
	group.Wait()
}

// P21.1: Map and Allowed for every number from below 0 to beyond MaxScalar, and all calls for one string of all that are allowed.
func TestEveryNumber(t *testing.T) {
	x := newTables()
	var all, allowed []int
	for c := -0x100; c <= api.MaxScalar+0x100; c++ {
		all = append(all, c)
		mustAllow(t, []int{c}, x.step3([]int{c}))
		if x.step3([]int{c}) {
			allowed = append(allowed, c)
		}
	}
	for _, rule := range append([]int{api.RuleNone, -1}, rules...) {
		if got, want := prep.Map(all, rule), x.step1(all, rule); !slices.Equal(got, want) {
			t.Errorf("Map of all numbers by rule %d has %d numbers; want %d, and the same", rule, len(got), len(want))
		}
		got, ok := prep.Prep(allowed, rule)
		if want := x.step4(norm.Form(x.step1(allowed, rule), true), rule); slices.Contains(rules, rule) && !slices.Equal(got, want) || ok != slices.Contains(rules, rule) {
			t.Errorf("Prep of all that is allowed by rule %d: %t, %d numbers; want %d, and the same", rule, ok, len(got), len(want))
		}
	}
}

// mixed returns count numbers in no order: letters, spaces, marks, what is removed and what is decomposed.
func mixed(count int) []int {
	choice := []int{'a', 'B', 0xDF, 0xE9, 0x1EAD, 0x3A3, 0xAC00, 0x1100, 0x1161, ' ', ' ', ' ', 9, 0xA0, 0x2003, 0x301, 0x323, 0x340, 0xB4, 0xAD, 0xFE00, 0xFB03, 0xFF21, 0x132, 0x2122}
	l := make([]int, count)
	state := uint32(7)
	for i := range l {
		state = state*1664525 + 1013904223
		l[i] = choice[int(state>>8)%len(choice)]
	}
	return l
}

// P21.1, R1: long strings, mixed ones and those of one number alone.
func TestLong(t *testing.T) {
	x := newTables()
	for _, s := range [][]int{
		mixed(50000), slices.Repeat([]int{' '}, 50000), slices.Repeat([]int{'A'}, 50000), slices.Repeat([]int{' ', 0x301}, 20000),
		slices.Repeat([]int{'a', ' '}, 30000), slices.Repeat([]int{0xAD}, 50000), slices.Repeat([]int{0x301}, 20000),
	} {
		for _, rule := range rules {
			want := x.step4(norm.Form(x.step1(s, rule), true), rule)
			if got, ok := prep.Prep(s, rule); !ok || !slices.Equal(got, want) {
				t.Errorf("Prep of %d times %#x by rule %d has %d numbers, %t; want %d, and the same", len(s), s[0], rule, len(got), ok, len(want))
			}
			if got, ok := prep.Prep(append(slices.Clip(s), 0xE000), rule); ok || len(got) > 0 {
				t.Errorf("Prep of %d times %#x and U+E000 by rule %d has %d numbers, %t", len(s), s[0], rule, len(got), ok)
			}
		}
	}
}

// texts are strings that can be prepared, which the tests of P21.2 vary.
func texts() [][]int {
	return [][]int{
		scalars("Max Mustermann"), scalars("Straße 12"), scalars(" a  b "), scalars("x"), scalars("ΑΣ ας Éa"),
		{0xFB01, ' ', 0xFF21, 0x2122}, {'a', ' ', 0x301, ' ', 'b', 0x323}, {0xB4, 'Q', ' ', 0x212B}, {0x1112, 0x1175, 0xAC00, ' ', 0x30AB, 0x3099},
	}
}

// with returns s with more put at i.
func with(s []int, i int, more ...int) []int {
	return slices.Insert(slices.Clone(s), i, more...)
}

// P21.2: a scalar and its case folding, alone and in a string, unless the rule is RuleNumeric.
func TestCase(t *testing.T) {
	for _, m := range api.Folds() {
		for _, rule := range []int{api.RuleIgnore, api.RuleIa5} {
			mustEqual(t, []int{m.From}, m.To, rule, true, true)
			mustEqual(t, []int{'x', m.From, ' ', m.From, 0x301}, slices.Concat([]int{'X'}, m.To, []int{' '}, m.To, []int{0x301}), rule, true, true)
		}
	}
	for c := range 26 {
		upper, lower := []int{'A' + c, ' ', '1'}, []int{'a' + c, ' ', '1'}
		mustEqual(t, upper, lower, api.RuleIgnore, true, true)
		mustEqual(t, upper, lower, api.RuleIa5, true, true)
		mustEqual(t, upper, lower, api.RuleNumeric, false, true)
		mustEqual(t, lower, []int{'a' + (c+1)%26, ' ', '1'}, api.RuleIgnore, false, true)
	}
	for _, x := range [][2]string{{"É", "é"}, {"Σ", "ς"}, {"ß", "SS"}, {"Я", "я"}, {"ＡＢ", "ａｂ"}} {
		mustEqual(t, scalars(x[0]), scalars(x[1]), api.RuleIgnore, true, true)
		mustEqual(t, scalars(x[0]), scalars(x[1]), api.RuleNumeric, false, true)
	}
}

// ends reports whether a space at i of s stays one: no mark follows it there, nor a number that is decomposed into a mark.
func ends(s []int, i int) bool {
	return i == len(s) || s[i] != 0x301 && s[i] != 0x3099 && s[i] != 0x323
}

// P21.2: additional spaces at the ends and where there is one: U+0020, and both ends of each range of the table Spaces.
func TestMoreSpaces(t *testing.T) {
	sorts := []int{0x20}
	for _, r := range api.Spaces() {
		sorts = append(sorts, r.From, r.To)
	}
	for _, s := range texts() {
		for _, c := range sorts {
			for _, rule := range rules {
				mustEqual(t, s, with(s, 0, c), rule, true, true)
				mustEqual(t, s, with(s, len(s), c, c), rule, true, true)
				for i := range s {
					if s[i] == ' ' && ends(s, i+1) {
						mustEqual(t, s, with(s, i, c), rule, true, true)
						mustEqual(t, s, with(s, i+1, c, c), rule, true, true)
					}
				}
			}
		}
	}
}

// P21.2: a space where there was none makes another string, unless the rule is RuleNumeric; so does one with a mark on it, by any rule.
func TestOtherSpaces(t *testing.T) {
	for _, rule := range rules {
		numeric := rule == api.RuleNumeric
		mustEqual(t, scalars("ab"), scalars("a b"), rule, numeric, true)
		mustEqual(t, scalars("ab"), scalars(" a b"), rule, numeric, true)
		mustEqual(t, scalars("ab c"), scalars("a bc"), rule, numeric, true)
		mustEqual(t, scalars("a\u0323b"), scalars("a\u0323 b"), rule, numeric, true)
		mustEqual(t, scalars("ab"), scalars("a \u0301b"), rule, false, true)
		mustEqual(t, scalars("a\u0301"), scalars("a \u0301"), rule, false, true)
		mustEqual(t, scalars("a \u0301"), scalars("a  \u0301"), rule, numeric, true)
		mustEqual(t, scalars("a  \u0301"), scalars("a   \u0301"), rule, true, true)
	}
}

// P21.2: both ends of each range of the table Nothing, anywhere; the rules take turns.
func TestMoreNothing(t *testing.T) {
	for k, s := range texts() {
		for _, r := range api.Nothing() {
			for i := range len(s) + 1 {
				rule := rules[(i+k)%len(rules)]
				mustEqual(t, s, with(s, i, r.From), rule, true, true)
				mustEqual(t, s, with(s, i, r.To, r.From), rule, true, true)
			}
		}
	}
	for _, rule := range rules {
		mustEqual(t, []int{0xAD, 0, 0xE0001}, nil, rule, true, true)
		mustEqual(t, []int{0xAD, ' ', 0xAD}, nil, rule, true, true)
	}
}

// P21.2: scalars and their decompositions, alone and in a string.
func TestForms(t *testing.T) {
	forms := api.Compat()
	for _, row := range api.Canon() {
		m := api.Map{From: row[0], To: row[1:]}
		if row[2] == 0 {
			m.To = row[1:2]
		}
		forms = append(forms, m)
	}
	var group sync.WaitGroup
	for _, rule := range rules {
		for part := range slices.Chunk(forms, 50) {
			group.Go(func() {
				for _, m := range part {
					mustEqual(t, []int{m.From}, m.To, rule, true, true)
					mustEqual(t, []int{'x', m.From, ' ', m.From, 0x323}, slices.Concat([]int{'x'}, m.To, []int{' '}, m.To, []int{0x323}), rule, true, true)
				}
			})
		}
	}
	group.Wait()
}

// P21.2: strings that differ in all of these at once.
func TestAllAtOnce(t *testing.T) {
	for _, x := range []struct {
		a, b    []int
		numeric bool
	}{
		{[]int{0xFEFF, 0xA0, 0xFF33, 't', 'r', 'a', 0xFB05, 0x3000, 9, 0x2460}, scalars("stRaST 1  "), false},
		{[]int{0x212B, 0xAD, 0x323, 0x2003}, []int{' ', 0x1EA1, 0x30A}, false},
		{[]int{0x2122, ' ', 0x132}, scalars("  tm\tij"), false},
		{[]int{0xFF11, 0x3000, 0xFF12, 0xFF13}, []int{'1', 0x200B, ' ', '2', 0xB3}, true},
	} {
		mustEqual(t, x.a, x.b, api.RuleIgnore, true, true)
		mustEqual(t, x.a, x.b, api.RuleIa5, true, true)
		mustEqual(t, x.a, x.b, api.RuleNumeric, x.numeric, true)
	}
}

// hidden returns strings each with more behind its length, which would change what is answered if it were read.
func hidden() [][]int {
	var l [][]int
	for _, s := range append(texts(), nil, []int{' '}, scalars("a "), scalars("ab"), []int{0x340}, []int{0xAD}) {
		for _, more := range [][]int{{0x301, 'x', 0xE000}, {' ', 'x', -1}, {0xD800, 0x301}} {
			l = append(l, append(slices.Clone(s), more...)[:len(s)])
		}
	}
	return l
}

// P21.1, R2, R6: the arguments stay, and what stands behind their length is neither read nor written.
func TestArgumentsStay(t *testing.T) {
	x := newTables()
	for _, s := range hidden() {
		whole := slices.Clone(s[:cap(s)])
		for _, rule := range append([]int{api.RuleNone}, rules...) {
			x.mustBeAsTold(t, s, rule)
			mustEqual(t, s, slices.Clone(s), rule, rule != api.RuleNone, rule != api.RuleNone)
			mustEqual(t, s, s[:cap(s)], rule, false, false)
		}
		mustAllow(t, s[:cap(s)], false)
		if !slices.Equal(s[:cap(s)], whole) {
			t.Errorf("the argument was %#x, and is %#x", whole, s[:cap(s)])
		}
	}
}

// overwrite writes to all of l, also behind its length.
func overwrite(l []int) {
	for i := range l[:cap(l)] {
		l[:cap(l)][i] = 0xE000
	}
}

// mustBeNew checks that what f returns for s shares no memory with s nor with what it returns next.
func mustBeNew(t *testing.T, s []int, f func([]int) []int) {
	t.Helper()
	whole := slices.Clone(s[:cap(s)])
	first, second := f(s), f(s)
	want := slices.Clone(first)
	overwrite(first)
	if !slices.Equal(second, want) || !slices.Equal(f(s), want) || !slices.Equal(s[:cap(s)], whole) {
		t.Errorf("what is returned for %#x shares its memory", whole)
	}
}

// P21.1, R2: results are new memory.
func TestResultsAreNew(t *testing.T) {
	for _, s := range hidden() {
		for _, rule := range append([]int{api.RuleNone}, rules...) {
			mustBeNew(t, s, func(s []int) []int { return prep.Map(s, rule) })
			mustBeNew(t, s, func(s []int) []int { return prep.Spaces(s, rule) })
			mustBeNew(t, s, func(s []int) []int {
				l, _ := prep.Prep(s, rule)
				return l
			})
		}
	}
}

// R3: calls in turn and from several goroutines at once do not disturb each other.
func TestCallsAtOnce(t *testing.T) {
	var group sync.WaitGroup
	for range 8 {
		group.Go(func() {
			for range 10 {
				mustPrep(t, scalars(" A  b"), api.RuleIgnore, scalars(" a  b "))
				mustPrep(t, scalars(" A  b"), api.RuleNumeric, scalars("Ab"))
				mustNotPrep(t, []int{0xE000}, api.RuleIa5)
				mustPrep(t, nil, api.RuleIa5, scalars("  "))
				mustEqual(t, []int{0xFB01}, scalars("FI"), api.RuleIa5, true, true)
				mustNotPrep(t, scalars(" A  b"), api.RuleNone)
			}
		})
	}
	group.Wait()
}
