package hangul_test

import (
	"testing"

	"sobriquet/api"
	"sobriquet/hangul"
)

// syllable is a syllable with its letters; without a trailing consonant, trailing is noTrailing.
type syllable struct {
	scalar, leading, vowel, trailing int
}

// syllables returns the syllables, counted one by one, so that no formula can be wrong here and there alike.
func syllables() []syllable {
	var l []syllable
	for leading := firstLeading; leading <= lastLeading; leading++ {
		for vowel := firstVowel; vowel <= lastVowel; vowel++ {
			for trailing := noTrailing; trailing <= lastTrailing; trailing++ {
				l = append(l, syllable{firstSyllable + len(l), leading, vowel, trailing})
			}
		}
	}
	return l
}

// P7.1, P7.2: every syllable is split, and joined again.
func TestEverySyllable(t *testing.T) {
	l := syllables()
	if len(l) != 11172 || l[len(l)-1].scalar != lastSyllable {
		t.Fatalf("%d syllables, up to %#x", len(l), l[len(l)-1].scalar)
	}
	open := 0
	for _, x := range l {
		if x.trailing == noTrailing {
			open = x.scalar
			mustSplit(t, x.scalar, x.leading, x.vowel)
			mustJoin(t, x.leading, x.vowel, x.scalar)
			continue
		}
		mustSplit(t, x.scalar, x.leading, x.vowel, x.trailing)
		mustJoin(t, open, x.trailing, x.scalar)
	}
}

// P7.1: every other number around the scalars is split into nothing.
func TestEveryOtherNumber(t *testing.T) {
	for c := -api.MaxScalar; c <= 3*api.MaxScalar; c++ {
		if is := firstSyllable <= c && c <= lastSyllable; (len(hangul.Split(c)) > 0) != is {
			t.Fatalf("Split(%#x) = %#x", c, hangul.Split(c))
		}
	}
}

// P7.2: what Split returns is joined to the syllable again, from left to right.
func TestSplitIsJoinedAgain(t *testing.T) {
	for c := firstSyllable; c <= lastSyllable; c++ {
		l := hangul.Split(c)
		if len(l) != 2 && len(l) != 3 {
			t.Fatalf("Split(%#x) = %#x", c, l)
		}
		whole := l[0]
		for _, letter := range l[1:] {
			next, is := hangul.Join(whole, letter)
			if !is {
				t.Fatalf("Join(%#x, %#x) is none", whole, letter)
			}
			whole = next
		}
		if whole != c {
			t.Fatalf("%#x is split into %#x, which is joined to %#x", c, l, whole)
		}
	}
}

// composites returns the syllable of each pair of numbers that has one.
func composites() map[[2]int]int {
	found := map[[2]int]int{}
	open := 0
	for _, x := range syllables() {
		if x.trailing == noTrailing {
			open = x.scalar
			found[[2]int{x.leading, x.vowel}] = x.scalar
			continue
		}
		found[[2]int{open, x.trailing}] = x.scalar
	}
	return found
}

// mustJoinAsFound checks Join for a and b.
func mustJoinAsFound(t *testing.T, found map[[2]int]int, a, b int) {
	t.Helper()
	if want, known := found[[2]int{a, b}]; known {
		mustJoin(t, a, b, want)
		return
	}
	mustNotJoin(t, a, b)
}

// P7.1: all pairs of letters and the numbers around them.
func TestEveryPairOfLetters(t *testing.T) {
	found := composites()
	for a := firstLeading - 0x20; a <= lastTrailing+0x40; a++ {
		for b := firstLeading - 0x20; b <= lastTrailing+0x40; b++ {
			mustJoinAsFound(t, found, a, b)
		}
	}
}

// P7.1: every syllable and the numbers around them, with every trailing consonant and the numbers beside these.
func TestEveryTrailing(t *testing.T) {
	found := composites()
	for a := firstSyllable - 60; a <= lastSyllable+60; a++ {
		for b := noTrailing - 2; b <= lastTrailing+2; b++ {
			mustJoinAsFound(t, found, a, b)
		}
	}
}

// P7.1: each scalar with a letter of each kind and with a syllable, ahead of it and behind it.
func TestEveryScalarWithALetter(t *testing.T) {
	found := composites()
	for c := -0x100; c <= api.MaxScalar+0x100; c++ {
		for _, other := range []int{firstLeading, firstVowel, lastTrailing, firstSyllable, lastSyllable} {
			for _, x := range [][2]int{{c, other}, {other, c}} {
				_, is := hangul.Join(x[0], x[1])
				if is || firstLeading <= c && c <= lastSyllable {
					mustJoinAsFound(t, found, x[0], x[1])
				}
			}
		}
	}
}
