package hangul_test

import (
	"math"
	"slices"
	"sync"
	"testing"

	"sobriquet/api"
	"sobriquet/hangul"
)

// The first and the last of each kind, by the words of the chapter.
const (
	firstSyllable = 0xAC00
	lastSyllable  = 0xD7A3
	firstLeading  = 0x1100
	lastLeading   = 0x1112
	firstVowel    = 0x1161
	lastVowel     = 0x1175
	noTrailing    = 0x11A7
	firstTrailing = 0x11A8
	lastTrailing  = 0x11C2
)

// mustSplit checks what Split returns for c.
func mustSplit(t *testing.T, c int, want ...int) {
	t.Helper()
	if got := hangul.Split(c); !slices.Equal(got, want) {
		t.Errorf("Split(%#x) = %#x; want %#x", c, got, want)
	}
}

// mustJoin checks that a and b are joined to want.
func mustJoin(t *testing.T, a, b, want int) {
	t.Helper()
	if got, is := hangul.Join(a, b); got != want || !is {
		t.Errorf("Join(%#x, %#x) = %#x, %v; want %#x", a, b, got, is, want)
	}
}

// mustNotJoin checks that a and b are not joined, and R4: beside false the other result is 0.
func mustNotJoin(t *testing.T, a, b int) {
	t.Helper()
	if got, is := hangul.Join(a, b); got != 0 || is {
		t.Errorf("Join(%#x, %#x) = %#x, %v", a, b, got, is)
	}
}

// P7.1: syllables of two letters and of three.
func TestSplit(t *testing.T) {
	mustSplit(t, 0xAC00, 0x1100, 0x1161)
	mustSplit(t, 0xAC01, 0x1100, 0x1161, 0x11A8)
	mustSplit(t, 0xAC1B, 0x1100, 0x1161, 0x11C2)
	mustSplit(t, 0xAC1C, 0x1100, 0x1162)
	mustSplit(t, 0xAC1D, 0x1100, 0x1162, 0x11A8)
	mustSplit(t, 0xAE30, 0x1100, 0x1175)
	mustSplit(t, 0xAE4B, 0x1100, 0x1175, 0x11C2)
	mustSplit(t, 0xAE4C, 0x1101, 0x1161)
	mustSplit(t, 0xAE00, 0x1100, 0x1173, 0x11AF)
	mustSplit(t, 0xD55C, 0x1112, 0x1161, 0x11AB)
	mustSplit(t, 0xD788, 0x1112, 0x1175)
	mustSplit(t, 0xD789, 0x1112, 0x1175, 0x11A8)
	mustSplit(t, 0xD7A3, 0x1112, 0x1175, 0x11C2)
}

// P7.1: what is no syllable is split into nothing, a letter and a mark too.
func TestSplitOfOtherNumbers(t *testing.T) {
	for _, c := range []int{0, 1, 0x41, 0xC0, 0x300, 0x1100, 0x1112, 0x1161, 0x1175, 0x11A7, 0x11A8, 0x11C2, 0x3131, 0x9FA5, 0xABFF, 0xD7A4, 0xD7FF, 0xD800, 0xDFFF, 0xE000, 0xFFFD, 0x1AC00, api.MaxScalar} {
		mustSplit(t, c)
	}
}

// P7.1: a leading consonant and a vowel.
func TestJoinLetters(t *testing.T) {
	mustJoin(t, 0x1100, 0x1161, 0xAC00)
	mustJoin(t, 0x1100, 0x1162, 0xAC1C)
	mustJoin(t, 0x1100, 0x1175, 0xAE30)
	mustJoin(t, 0x1101, 0x1161, 0xAE4C)
	mustJoin(t, 0x110B, 0x1175, 0xC774)
	mustJoin(t, 0x1112, 0x1161, 0xD558)
	mustJoin(t, 0x1112, 0x1175, 0xD788)
}

// P7.1: a syllable and a trailing consonant.
func TestJoinTrailing(t *testing.T) {
	mustJoin(t, 0xAC00, 0x11A8, 0xAC01)
	mustJoin(t, 0xAC00, 0x11C2, 0xAC1B)
	mustJoin(t, 0xAC1C, 0x11A8, 0xAC1D)
	mustJoin(t, 0xAE30, 0x11C2, 0xAE4B)
	mustJoin(t, 0xD558, 0x11AB, 0xD55C)
	mustJoin(t, 0xD788, 0x11A8, 0xD789)
	mustJoin(t, 0xD788, 0x11C2, 0xD7A3)
}

// P7.1: letters that are not joined.
func TestJoinOfOtherLetters(t *testing.T) {
	// The numbers beside the first letters and the last ones.
	for _, x := range [][2]int{{0x10FF, 0x1161}, {0x1113, 0x1161}, {0x115F, 0x1161}, {0x1100, 0x1160}, {0x1100, 0x1176}, {0x1112, 0x1160}, {0x1112, 0x1176}} {
		mustNotJoin(t, x[0], x[1])
	}
	// The wrong way about, or of kinds that are not joined.
	for _, x := range [][2]int{{0x1161, 0x1100}, {0x1175, 0x1112}, {0x1100, 0x1100}, {0x1161, 0x1161}, {0x11A8, 0x11A8}, {0x1100, 0x11A8}, {0x1161, 0x11A8}, {0x11A8, 0x1161}, {0x1100, 0xAC00}, {0xAC00, 0x1100}, {0xAC00, 0x1161}, {0xAC00, 0xAC00}, {0x1161, 0xAC00}, {0x11A8, 0xAC00}} {
		mustNotJoin(t, x[0], x[1])
	}
	// Letters and scalars that have nothing to do with syllables, and the letters of the compatibility block.
	for _, x := range [][2]int{{0, 0}, {0x41, 0x300}, {0x30AB, 0x3099}, {0x3131, 0x314F}, {0xAC00, 0x3131}, {0x1100, 0x300}, {0x41, 0x1161}} {
		mustNotJoin(t, x[0], x[1])
	}
}

// P7.1: no trailing consonant is added where t is 0, nor the numbers behind the last one, nor to a syllable that has one, nor to what is no syllable.
func TestJoinOfOtherTrailing(t *testing.T) {
	for c := firstSyllable; c <= lastSyllable; c += 28 {
		for _, b := range []int{0, 1, 27, 0x1160, 0x1176, noTrailing - 1, noTrailing, lastTrailing + 1, lastTrailing + 2} {
			mustNotJoin(t, c, b)
		}
		for closed := c + 1; closed < c+28; closed++ {
			for b := noTrailing - 1; b <= lastTrailing+1; b++ {
				mustNotJoin(t, closed, b)
			}
		}
	}
	// The numbers that continue the steps of 28 on both sides.
	for _, a := range []int{0, firstSyllable - 56, firstSyllable - 28, firstSyllable - 1, lastSyllable + 1, lastSyllable + 29, lastSyllable + 28*588} {
		mustNotJoin(t, a, firstTrailing)
		mustNotJoin(t, a, lastTrailing)
	}
}

// farNumbers are numbers below 0 and above MaxScalar, among them those that are the same as a letter or a syllable but for bits that a smaller number does not have.
func farNumbers() []int {
	l := []int{
		math.MinInt, math.MinInt + 1, math.MinInt + firstSyllable, math.MinInt + firstLeading, math.MinInt32, -1 << 40, -2, -1,
		-firstSyllable, -lastSyllable, -firstLeading, -firstVowel, -firstTrailing,
		api.MaxScalar + 1, math.MaxInt32, math.MaxInt32 + 1, 1 << 62, math.MaxInt - 1, math.MaxInt,
	}
	for _, c := range []int{firstSyllable, firstSyllable + 28, lastSyllable, firstLeading, lastLeading, firstVowel, lastVowel, firstTrailing, lastTrailing} {
		for _, shift := range []int{21, 31, 32, 48, 62, 63} {
			l = append(l, c+1<<shift, c-1<<shift)
		}
	}
	return l
}

// P7.1, R1, R5: numbers of any size.
func TestFarNumbers(t *testing.T) {
	near := []int{0, firstSyllable, firstSyllable + 1, lastSyllable - 27, lastSyllable, firstLeading, lastLeading, firstVowel, lastVowel, noTrailing, firstTrailing, lastTrailing}
	for _, c := range farNumbers() {
		mustSplit(t, c)
		for _, other := range slices.Concat(near, farNumbers()) {
			mustNotJoin(t, c, other)
			mustNotJoin(t, other, c)
		}
	}
}

// R2: a result that is changed afterwards, its spare capacity too, changes neither another one nor a later one.
func TestResultsAreNewMemory(t *testing.T) {
	for c := firstSyllable - 1; c <= lastSyllable+1; c++ {
		first, second := hangul.Split(c), hangul.Split(c)
		kept := slices.Clone(first)
		full := first[:cap(first)]
		for i := range full {
			full[i] = -1
		}
		if !slices.Equal(second, kept) {
			t.Errorf("%#x: two results share memory", c)
		}
		mustSplit(t, c, kept...)
	}
	mustSplit(t, 0xAC01, 0x1100, 0x1161, 0x11A8)
	mustJoin(t, 0xAC00, 0x11A8, 0xAC01)
}

// R3: calls from several goroutines at once do not disturb each other.
func TestCallsAtOnce(t *testing.T) {
	var group sync.WaitGroup
	for range 8 {
		group.Go(func() {
			for range 1000 {
				mustSplit(t, 0xD7A3, 0x1112, 0x1175, 0x11C2)
				mustSplit(t, 0xAC00, 0x1100, 0x1161)
				mustJoin(t, 0x1100, 0x1161, 0xAC00)
				mustJoin(t, 0xD788, 0x11C2, 0xD7A3)
			}
		})
	}
	group.Wait()
}
