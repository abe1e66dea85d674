package csets_test

import (
	"math"
	"slices"
	"sync"
	"testing"

	"sobriquet/api"
	"sobriquet/csets"
)

// The sets that are supported.
var allSets = []int{102, 6, 126, 144, 138, 87, 103}

// mustGet checks that c stands at the position of the set.
func mustGet(t *testing.T, set, place, c int) {
	t.Helper()
	if got, ok := csets.Get(set, place); got != c || !ok {
		t.Errorf("Get(%d, %#x) = %#x, %t; want %#x", set, place, got, ok, c)
	}
}

// mustNotGet checks that nothing stands at the position of the set.
func mustNotGet(t *testing.T, set, place int) {
	t.Helper()
	if got, ok := csets.Get(set, place); got != 0 || ok {
		t.Errorf("Get(%d, %#x) = %#x, %t; want none", set, place, got, ok)
	}
}

// mustFind checks that the set has c at the position.
func mustFind(t *testing.T, set, c, place int) {
	t.Helper()
	if got, ok := csets.Find(set, c); got != place || !ok {
		t.Errorf("Find(%d, %#x) = %#x, %t; want %#x", set, c, got, ok, place)
	}
}

// mustNotFind checks that the set does not have c.
func mustNotFind(t *testing.T, set, c int) {
	t.Helper()
	if got, ok := csets.Find(set, c); got != 0 || ok {
		t.Errorf("Find(%d, %#x) = %#x, %t; want none", set, c, got, ok)
	}
}

// mustName checks that the final byte names the set.
func mustName(t *testing.T, final int, wide bool, set int) {
	t.Helper()
	if got, ok := csets.ByFinal(final, wide); got != set || !ok {
		t.Errorf("ByFinal(%#x, %t) = %d, %t; want %d", final, wide, got, ok, set)
	}
}

// mustNotName checks that the final byte names no set.
func mustNotName(t *testing.T, final int, wide bool) {
	t.Helper()
	if got, ok := csets.ByFinal(final, wide); got != 0 || ok {
		t.Errorf("ByFinal(%#x, %t) = %d, %t; want none", final, wide, got, ok)
	}
}

// mustMark checks that the accent at the position has the mark and denotes alone before a space.
func mustMark(t *testing.T, place, mark, alone int) {
	t.Helper()
	if m, a, ok := csets.Mark(place); m != mark || a != alone || !ok {
		t.Errorf("Mark(%#x) = %#x, %#x, %t; want %#x, %#x", place, m, a, ok, mark, alone)
	}
}

// mustNotMark checks that there is no accent at the position.
func mustNotMark(t *testing.T, place int) {
	t.Helper()
	if m, a, ok := csets.Mark(place); m != 0 || a != 0 || ok {
		t.Errorf("Mark(%#x) = %#x, %#x, %t; want none", place, m, a, ok)
	}
}

// mustAccent checks that the accent at the position and the letter denote c.
func mustAccent(t *testing.T, c, place, letter int) {
	t.Helper()
	if p, l, ok := csets.Accent(c); p != place || l != letter || !ok {
		t.Errorf("Accent(%#x) = %#x, %#x, %t; want %#x, %#x", c, p, l, ok, place, letter)
	}
}

// mustNotAccent checks that no accent and letter denote c.
func mustNotAccent(t *testing.T, c int) {
	t.Helper()
	if p, l, ok := csets.Accent(c); p != 0 || l != 0 || ok {
		t.Errorf("Accent(%#x) = %#x, %#x, %t; want none", c, p, l, ok)
	}
}

// P16.1: the example of the chapter.
func TestExample(t *testing.T) {
	mustAccent(t, 0xC0, 0x41, 0x41)
}

// shifted returns each number of l with one bit added or taken away that a number of fewer bits does not have.
func shifted(l ...int) []int {
	var all []int
	for _, x := range l {
		for _, shift := range []int{7, 8, 16, 21, 24, 31, 32, 48, 62, 63} {
			all = append(all, x+1<<shift, x-1<<shift)
		}
	}
	return all
}

// farNumbers are numbers that are no set, position, scalar or final byte of the tables.
func farNumbers() []int {
	l := []int{
		math.MinInt, math.MinInt + 1, math.MinInt32 - 1, math.MinInt32, -1 << 40, -0x10000, -0x2421, -0x103, -0x80, -0x41, -87, -6, -2, -1,
		0xD800, 0xDFFF, 0xFFFF, 0x10000, api.MaxScalar, api.MaxScalar + 1,
		math.MaxInt32, math.MaxInt32 + 1, math.MaxUint32, math.MaxUint32 + 1, 1 << 40, 1 << 62, math.MaxInt - 1, math.MaxInt,
	}
	for _, x := range shifted(0, 0x20, 0x21, 0x41, 0x42, 0x60, 0x75, 0x76, 0x7E, 0xC0, 0x2421, 6, 87, 102, 103) {
		if x < 0 || x > 0x3000 {
			l = append(l, x)
		}
	}
	return l
}

// P16.1: 87 alone is wide.
func TestWide(t *testing.T) {
	for set := -1000; set <= 1000; set++ {
		if csets.Wide(set) != (set == 87) {
			t.Errorf("Wide(%d) = %t", set, set != 87)
		}
	}
	for _, set := range append(farNumbers(), shifted(87)...) {
		if csets.Wide(set) {
			t.Errorf("Wide(%d) = true", set)
		}
	}
}

// P16.1: positions of each set, both ways, with the ones beside them that it does not have.
func TestPositions(t *testing.T) {
	for _, x := range []struct{ set, place, c int }{
		{6, 0x21, '!'}, {6, 0x24, '$'}, {6, 0x41, 'A'}, {6, 0x5C, '\\'}, {6, 0x7E, '~'},
		{102, 0x21, '!'}, {102, 0x23, '#'}, {102, 0x24, '¤'}, {102, 0x25, '%'}, {102, 0x5B, '['}, {102, 0x5D, ']'}, {102, 0x5F, '_'}, {102, 0x61, 'a'}, {102, 0x7A, 'z'}, {102, 0x7C, '|'},
		{103, 0x21, '¡'}, {103, 0x24, '$'}, {103, 0x28, '¤'}, {103, 0x2B, '«'}, {103, 0x3F, '¿'}, {103, 0x60, 0x3A9}, {103, 0x61, 'Æ'}, {103, 0x64, 'Ħ'}, {103, 0x66, 'Ĳ'}, {103, 0x7B, 'ß'}, {103, 0x7E, 'ŋ'},
		{126, 0x41, 'Α'}, {126, 0x51, 'Ρ'}, {126, 0x53, 'Σ'}, {126, 0x61, 'α'}, {126, 0x72, 'ς'}, {126, 0x7E, 'ώ'},
		{144, 0x21, 'Ё'}, {144, 0x2C, 'Ќ'}, {144, 0x2E, 'Ў'}, {144, 0x30, 'А'}, {144, 0x6F, 'я'}, {144, 0x71, 'ё'}, {144, 0x7E, 'ў'},
		{138, 0x60, 'א'}, {138, 0x7A, 'ת'},
		{87, 0x2421, 'ぁ'}, {87, 0x2422, 'あ'}, {87, 0x2473, 'ん'}, {87, 0x2521, 'ァ'}, {87, 0x2576, 'ヶ'},
	} {
		mustGet(t, x.set, x.place, x.c)
		mustFind(t, x.set, x.c, x.place)
	}
	for _, x := range [][2]int{
		{6, 0x20}, {6, 0x7F}, {6, 0xC1}, {6, 0},
		{102, 0x20}, {102, 0x5C}, {102, 0x5E}, {102, 0x60}, {102, 0x7B}, {102, 0x7D}, {102, 0x7E}, {102, 0x7F},
		{103, 0x20}, {103, 0x29}, {103, 0x2A}, {103, 0x2C}, {103, 0x2F}, {103, 0x39}, {103, 0x40}, {103, 0x41}, {103, 0x4F}, {103, 0x5F}, {103, 0x65}, {103, 0x7F},
		{126, 0x21}, {126, 0x40}, {126, 0x52}, {126, 0x7F},
		{144, 0x20}, {144, 0x2D}, {144, 0x70}, {144, 0x7D}, {144, 0x7F},
		{138, 0x41}, {138, 0x5F}, {138, 0x7B},
		{87, 0x21}, {87, 0x24}, {87, 0x2420}, {87, 0x2474}, {87, 0x2520}, {87, 0x2577}, {87, 0x2424 + 0x8080}, {87, 0x2124}, {87, 0},
	} {
		mustNotGet(t, x[0], x[1])
	}
}

// P16.1: scalars that a set does not have, though others have them.
func TestScalarsOfOtherSets(t *testing.T) {
	for _, x := range [][2]int{
		{102, '$'}, {102, '\\'}, {102, '^'}, {102, '`'}, {102, '{'}, {102, '}'}, {102, '~'}, {102, ' '}, {102, 'À'},
		{6, '¤'}, {6, ' '}, {6, 0x7F}, {6, 0}, {6, 'À'}, {6, 'А'},
		{103, 'A'}, {103, '!'}, {103, 'À'}, {103, '´'}, {103, ' '}, {103, 0x301},
		{126, 'A'}, {126, 'a'}, {126, '!'}, {126, 'А'},
		{144, 'A'}, {144, 'Α'}, {144, '§'},
		{138, 'A'}, {138, 'α'},
		{87, 'A'}, {87, 'か' + 0x1000}, {87, 0x3040}, {87, 0x3094}, {87, 0x30A0}, {87, 0x30F7},
	} {
		mustNotFind(t, x[0], x[1])
	}
}

// P16.1: sets that are not supported have no positions.
func TestOtherSets(t *testing.T) {
	for set := -200; set <= 400; set++ {
		if slices.Contains(allSets, set) {
			continue
		}
		for _, place := range []int{0, 0x20, 0x24, 0x41, 0x61, 0x7E, 0x2421} {
			mustNotGet(t, set, place)
		}
		for _, c := range []int{0, ' ', '$', 'A', 'a', 'À', 'Α', 'А', 0x5D0, 0x3041} {
			mustNotFind(t, set, c)
		}
	}
}

// P16.1: every final byte of a set, with both values of wide.
func TestFinals(t *testing.T) {
	mustName(t, 0x75, false, 102)
	mustName(t, 0x42, false, 6)
	mustName(t, 0x46, false, 126)
	mustName(t, 0x4C, false, 144)
	mustName(t, 0x48, false, 138)
	mustName(t, 0x76, false, 103)
	mustName(t, 0x42, true, 87)
	for final := -300; final <= 300; final++ {
		if !slices.Contains([]int{0x75, 0x42, 0x46, 0x4C, 0x48, 0x76}, final) {
			mustNotName(t, final, false)
		}
		if final != 0x42 {
			mustNotName(t, final, true)
		}
	}
}

// P16.1: every accent with its mark and what it denotes before a space.
func TestMarks(t *testing.T) {
	mustMark(t, 0x41, 0x300, 0x60)
	mustMark(t, 0x42, 0x301, 0xB4)
	mustMark(t, 0x43, 0x302, 0x5E)
	mustMark(t, 0x44, 0x303, 0x7E)
	mustMark(t, 0x45, 0x304, 0xAF)
	mustMark(t, 0x46, 0x306, 0x2D8)
	mustMark(t, 0x47, 0x307, 0x2D9)
	mustMark(t, 0x48, 0x308, 0xA8)
	mustMark(t, 0x4A, 0x30A, 0x2DA)
	mustMark(t, 0x4B, 0x327, 0xB8)
	mustMark(t, 0x4D, 0x30B, 0x2DD)
	mustMark(t, 0x4E, 0x328, 0x2DB)
	mustMark(t, 0x4F, 0x30C, 0x2C7)
	for place := -300; place <= 300; place++ {
		if place < 0x41 || place > 0x4F || place == 0x49 || place == 0x4C {
			mustNotMark(t, place)
		}
	}
	for _, place := range []int{0x300, 0x301, 0x30C, 0x2C7, 0x2DD, 0x2421} {
		mustNotMark(t, place)
	}
}

// P16.1: what an accent denotes before a space is denoted by it and a space.
func TestAccentsBeforeASpace(t *testing.T) {
	mustAccent(t, '`', 0x41, 0x20)
	mustAccent(t, '´', 0x42, 0x20)
	mustAccent(t, '^', 0x43, 0x20)
	mustAccent(t, '~', 0x44, 0x20)
	mustAccent(t, '¯', 0x45, 0x20)
	mustAccent(t, 0x2D8, 0x46, 0x20)
	mustAccent(t, 0x2D9, 0x47, 0x20)
	mustAccent(t, '¨', 0x48, 0x20)
	mustAccent(t, 0x2DA, 0x4A, 0x20)
	mustAccent(t, '¸', 0x4B, 0x20)
	mustAccent(t, 0x2DD, 0x4D, 0x20)
	mustAccent(t, 0x2DB, 0x4E, 0x20)
	mustAccent(t, 0x2C7, 0x4F, 0x20)
}

// P16.1: letters with each accent.
func TestAccentsOnLetters(t *testing.T) {
	for _, x := range []struct {
		c     rune
		place int
		base  rune
	}{
		{'À', 0x41, 'A'}, {'ù', 0x41, 'u'}, {'Á', 0x42, 'A'}, {'ź', 0x42, 'z'}, {'Ý', 0x42, 'Y'}, {'Ĉ', 0x43, 'C'}, {'ŵ', 0x43, 'w'}, {'Ã', 0x44, 'A'}, {'ñ', 0x44, 'n'},
		{'Ā', 0x45, 'A'}, {'ū', 0x45, 'u'}, {'Ă', 0x46, 'A'}, {'ŭ', 0x46, 'u'}, {'İ', 0x47, 'I'}, {'ż', 0x47, 'z'}, {'Ä', 0x48, 'A'}, {'ÿ', 0x48, 'y'},
		{'Å', 0x4A, 'A'}, {'ů', 0x4A, 'u'}, {'Ç', 0x4B, 'C'}, {'ţ', 0x4B, 't'}, {'Ő', 0x4D, 'O'}, {'ű', 0x4D, 'u'}, {'Ą', 0x4E, 'A'}, {'ų', 0x4E, 'u'}, {'Č', 0x4F, 'C'}, {'ž', 0x4F, 'z'},
	} {
		mustAccent(t, int(x.c), x.place, int(x.base))
	}
}

// P16.1: scalars that no accent and letter denote.
func TestNoAccents(t *testing.T) {
	for c := range 0xC0 {
		if !slices.Contains([]int{'`', '^', '~', '¨', '¯', '´', '¸'}, c) {
			mustNotAccent(t, c)
		}
	}
	for _, c := range []rune{
		// The accents and letters that have none.
		0x300, 0x301, 0x327, 0x30C, 'Æ', 'Ð', 'Ø', 'ß', 'æ', 'ø', 'đ', 'ı',
		// One mark that no accent is, two marks, and other letters with marks.
		'ạ', 'Ạ', 'ơ', 'ả', 'Ấ', 'ế', 'ǖ', 'Ά', 'ΐ', 'Ё', 'й', 'ぁ', 'が',
		// Those that decompose into one scalar: kelvin, angstrom, a grave of its own.
		0x212A, 0x212B, 0x1FEF, 0x340, 0x341, 0x344, 0x37E,
		// Syllables, and what has a compatibility decomposition.
		0xAC00, 0xAC01, 0xFB01, 0xFF21,
	} {
		mustNotAccent(t, int(c))
	}
}

// P16.1, R1, R4, R5: numbers far below and above those of the tables, whatever their lowest bits say.
func TestFarNumbers(t *testing.T) {
	for _, x := range farNumbers() {
		for _, set := range allSets {
			mustNotGet(t, set, x)
			mustNotFind(t, set, x)
		}
		mustNotGet(t, x, 0x41)
		mustNotGet(t, x, 0x2421)
		mustNotGet(t, x, x)
		mustNotFind(t, x, 'A')
		mustNotFind(t, x, 0x3041)
		mustNotFind(t, x, x)
		mustNotName(t, x, false)
		mustNotName(t, x, true)
		mustNotMark(t, x)
		mustNotAccent(t, x)
	}
	for _, set := range shifted(allSets...) {
		mustNotGet(t, set, 0x41)
		mustNotFind(t, set, 'A')
	}
	for _, place := range shifted(0x41, 0x4F) {
		mustNotMark(t, place)
	}
	for _, final := range shifted(0x42, 0x75, 0x76) {
		mustNotName(t, final, false)
		mustNotName(t, final, true)
	}
}

// R3: calls in turn and from several goroutines at once do not disturb each other.
func TestCallsAtOnce(t *testing.T) {
	var group sync.WaitGroup
	for range 8 {
		group.Go(func() {
			for range 50 {
				mustGet(t, 102, 0x24, 0xA4)
				mustNotGet(t, 102, 0x7E)
				mustFind(t, 87, 0x3041, 0x2421)
				mustNotFind(t, 102, '$')
				mustName(t, 0x42, true, 87)
				mustNotName(t, 0x43, false)
				mustMark(t, 0x41, 0x300, 0x60)
				mustNotMark(t, 0x49)
				mustAccent(t, 0xC0, 0x41, 0x41)
				mustAccent(t, 0x60, 0x41, 0x20)
				mustNotAccent(t, 0x41)
			}
		})
	}
	group.Wait()
}
