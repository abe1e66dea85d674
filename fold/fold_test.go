package fold_test

import (
	"math"
	"slices"
	"sync"
	"testing"

	"sobriquet/api"
	"sobriquet/fold"
)

// mustFold checks what c becomes, by One and by All.
func mustFold(t *testing.T, c int, want ...int) {
	t.Helper()
	if got := fold.One(c); !slices.Equal(got, want) {
		t.Errorf("One(%#x) = %#x; want %#x", c, got, want)
	}
	mustFoldAll(t, []int{c}, want...)
}

// mustFoldAll checks what the numbers of s become.
func mustFoldAll(t *testing.T, s []int, want ...int) {
	t.Helper()
	if got := fold.All(s); !slices.Equal(got, want) {
		t.Errorf("All(%#x) = %#x; want %#x", s, got, want)
	}
}

// mustStay checks that c is what One and All return for it.
func mustStay(t *testing.T, c int) {
	t.Helper()
	mustFold(t, c, c)
}

// scalars returns the scalars of a text.
func scalars(text string) []int {
	var l []int
	for _, c := range text {
		l = append(l, int(c))
	}
	return l
}

// mustFoldText checks what the scalars of a text become, one by one and in a list.
func mustFoldText(t *testing.T, text, want string) {
	t.Helper()
	var each []int
	for _, c := range scalars(text) {
		each = append(each, fold.One(c)...)
	}
	if !slices.Equal(each, scalars(want)) {
		t.Errorf("One of each scalar of %q: %#x; want %q", text, each, want)
	}
	mustFoldAll(t, scalars(text), scalars(want)...)
}

// P12.1: the example of the chapter.
func TestExample(t *testing.T) {
	mustFoldText(t, "Straße", "strasse")
}

// P12.1: the capital letters of ASCII become small ones, and every other character of ASCII stays.
func TestAscii(t *testing.T) {
	for c := range 0x80 {
		if c >= 0x41 && c <= 0x5A {
			mustFold(t, c, c+0x20)
		} else {
			mustStay(t, c)
		}
	}
	mustFoldText(t, "The QUICK brown fox, 42 [\\]^_`{|}~ @", "the quick brown fox, 42 [\\]^_`{|}~ @")
}

// P12.1: scalars that become more than one.
func TestMoreThanOneScalar(t *testing.T) {
	mustFold(t, 0xDF, 0x73, 0x73)
	mustFold(t, 0x130, 0x69, 0x307)
	mustFold(t, 0x149, 0x2BC, 0x6E)
	mustFold(t, 0x2122, 0x74, 0x6D)
	mustFold(t, 0xFB00, 0x66, 0x66)
	mustFold(t, 0xFB01, 0x66, 0x69)
	mustFold(t, 0xFB02, 0x66, 0x6C)
	mustFold(t, 0xFB03, 0x66, 0x66, 0x69)
	mustFold(t, 0xFB05, 0x73, 0x74)
	mustFold(t, 0xFB06, 0x73, 0x74)
}

// P12.1: letters with marks stay whole.
func TestLettersWithMarks(t *testing.T) {
	mustFold(t, 0xC0, 0xE0)
	mustFold(t, 0xDE, 0xFE)
	mustFold(t, 0x178, 0xFF)
	mustFold(t, 0x17D, 0x17E)
	mustFold(t, 0x1EAC, 0x1EAD)
	mustFold(t, 0x386, 0x3AC)
	mustFold(t, 0x419, 0x439)
	mustFoldText(t, "ÀÉÎÕÜÇÅÑ ŁŐŘŠŻ ẤỆỘ ΆΌΏΪΫ ЁЇЎ", "àéîõüçåñ łőřšż ấệộ άόώϊϋ ёїў")
}

// P12.1: a mark of its own stays behind its letter: nothing is composed, decomposed or put in order.
func TestMarksOfTheirOwn(t *testing.T) {
	mustFoldAll(t, []int{0x41, 0x301}, 0x61, 0x301)
	mustFoldAll(t, []int{0x41, 0x301, 0x323, 0xC2, 0x323}, 0x61, 0x301, 0x323, 0xE2, 0x323)
	mustFoldAll(t, []int{0x49, 0x307, 0x130, 0x69}, 0x69, 0x307, 0x69, 0x307, 0x69)
	mustFoldAll(t, []int{0x1100, 0x1161, 0xAC00, 0x11A8}, 0x1100, 0x1161, 0xAC00, 0x11A8)
}

// P12.1: the capital sigma and the final one become the same letter, wherever they stand.
func TestSigma(t *testing.T) {
	mustFold(t, 0x3A3, 0x3C3)
	mustFold(t, 0x3C2, 0x3C3)
	mustStay(t, 0x3C3)
	mustFoldText(t, "ΟΔΥΣΣΕΥΣ Οδυσσευς ςσΣ", "οδυσσευσ οδυσσευσ σσσ")
}

// P12.1: letters of other scripts.
func TestOtherScripts(t *testing.T) {
	mustFoldText(t, "ΑΒΓΔΕΖΗΘΙΚΛΜΝΞΟΠΡΤΥΦΧΨΩ", "αβγδεζηθικλμνξοπρτυφχψω")
	mustFoldText(t, "АБВГДЕЖЗИЙКЛМНОПРСТУФХЦЧШЩЪЫЬЭЮЯ", "абвгдежзийклмнопрстуфхцчшщъыьэюя")
	mustFoldText(t, "ÆÐØĐĦĲĿŊŒŦ", "æðøđħĳŀŋœŧ")
	mustFoldText(t, "ЂЄЅІЈЉЊЋЏ", "ђєѕіјљњћџ")
}

// P12.1: signs that fold to letters.
func TestSigns(t *testing.T) {
	mustFold(t, 0xB5, 0x3BC)
	mustFold(t, 0x17F, 0x73)
	mustFold(t, 0x2126, 0x3C9)
	mustFold(t, 0x212A, 0x6B)
	mustFold(t, 0x212B, 0xE5)
	mustFold(t, 0x2160, 0x2170)
	mustFold(t, 0x2161, 0x2171)
	mustFold(t, 0x2164, 0x2174)
}

// P12.1: the capital letters of full width become small letters of full width, and those beside them stay.
func TestFullWidth(t *testing.T) {
	for c := 0xFF00; c <= 0xFF60; c++ {
		if c >= 0xFF21 && c <= 0xFF3A {
			mustFold(t, c, c+0x20)
		} else {
			mustStay(t, c)
		}
	}
}

// P12.1: small letters, letters without case, marks, digits, other scalars, and such as the tables have no folding for, whatever other tables say of them.
func TestScalarsWithoutFolding(t *testing.T) {
	for _, c := range []int{0xA0, 0xAA, 0xBA, 0xBD, 0xD7, 0xE0, 0xF7, 0xFF, 0x101, 0x131, 0x138, 0x13A, 0x140, 0x300, 0x301, 0x345, 0x3AC, 0x3C9, 0x430, 0x45F, 0x5D0, 0x660, 0x1100, 0x1E9E, 0x2010, 0x2044, 0x2121, 0x2123, 0x2162, 0x2163, 0x2165, 0x2170, 0x3042, 0x30AB, 0x4E00, 0xABFF, 0xAC00, 0xD7A3, 0xD7FF, 0xE000, 0xFAFF, 0xFB04, 0xFB07, 0xFF76, 0xFFFD, 0xFFFF, 0x10000, 0x10400, 0x1F600, api.MaxScalar - 1, api.MaxScalar} {
		mustStay(t, c)
	}
}

// noScalars are numbers that are no scalars, among them those that are the same as one with a folding but for bits that a smaller number does not have.
func noScalars() []int {
	l := []int{
		math.MinInt, math.MinInt + 1, math.MinInt32, -1 << 40, -0xDF, -0x5A, -0x41, -2, -1,
		0xD800, 0xD801, 0xDB7F, 0xDBFF, 0xDC00, 0xDC41, 0xDFFE, 0xDFFF,
		api.MaxScalar + 1, api.MaxScalar + 2, math.MaxInt32, math.MaxInt32 + 1, 1 << 40, 1 << 62, math.MaxInt - 1, math.MaxInt,
	}
	for _, c := range []int{0x41, 0x5A, 0xC0, 0xDF, 0x130, 0x3C2, 0xFB03, 0xFF21} {
		for _, shift := range []int{21, 31, 32, 48, 62, 63} {
			l = append(l, c+1<<shift, c-1<<shift)
		}
	}
	return l
}

// P12.1, R1, R5: any number that is no scalar stays, alone and among others.
func TestNumbersThatAreNoScalars(t *testing.T) {
	for _, c := range noScalars() {
		mustStay(t, c)
		mustFoldAll(t, []int{0x41, c, 0xDF, c}, 0x61, c, 0x73, 0x73, c)
	}
	mustFoldAll(t, noScalars(), noScalars()...)
}

// P12.1: every surrogate stays.
func TestSurrogates(t *testing.T) {
	var s []int
	for c := 0xD7FF; c <= 0xE000; c++ {
		s = append(s, c)
	}
	mustFoldAll(t, s, s...)
	for c := range slices.Chunk(s, 64) {
		mustStay(t, c[0])
	}
}

// P12.1: no numbers become none, whether the list is nil or empty.
func TestNothing(t *testing.T) {
	mustFoldAll(t, nil)
	mustFoldAll(t, []int{})
	mustFoldAll(t, make([]int, 0, 8))
}

// P12.1: several numbers in their order, and the same one again and again; one number that becomes several moves those behind it.
func TestAll(t *testing.T) {
	mustFoldAll(t, []int{0xDF, 0x41}, 0x73, 0x73, 0x61)
	mustFoldAll(t, []int{0x41, 0xDF}, 0x61, 0x73, 0x73)
	mustFoldAll(t, []int{0x42, 0x42, 0x62, 0x42}, 0x62, 0x62, 0x62, 0x62)
	mustFoldAll(t, []int{0xFB03, 0xFB03}, 0x66, 0x66, 0x69, 0x66, 0x66, 0x69)
	mustFoldAll(t, []int{-1, 0xD800, 0x5A, 1 << 40, 0x130, 0x40, 0x5B, 0xFF21, 0}, -1, 0xD800, 0x7A, 1<<40, 0x69, 0x307, 0x40, 0x5B, 0xFF41, 0)
}

// P12.1, R1: a long text, in which few numbers stand again and again.
func TestLongText(t *testing.T) {
	const times = 100000
	s, want := slices.Repeat([]int{0x41, 0xFB03, -1, 0x62}, times), slices.Repeat([]int{0x61, 0x66, 0x66, 0x69, -1, 0x62}, times)
	if got := fold.All(s); !slices.Equal(got, want) {
		t.Errorf("%d numbers; want %d, or others", len(got), len(want))
	}
}

// spoil changes l, its spare capacity too.
func spoil(l []int) {
	full := l[:cap(l)]
	for i := range full {
		full[i] = 0x58
	}
}

// lists are lists of many kinds.
func lists() [][]int {
	return [][]int{nil, {}, {0x41}, {0x61}, {0x61, 0x62, 0x63}, {0x41, 0x42}, {0xDF, 0xFB03}, {0x130, 0x149, 0x2122}, {0x3C2, 0xD800}, {-1, 1 << 40}, {0xDF, 0xDF, 0x41, 0x41}, slices.Repeat([]int{0x41, 0xFB05, 0x20}, 100)}
}

// R2: a result of One that is changed afterwards, its spare capacity too, changes neither another one nor a later one, nor what All returns.
func TestResultsOfOneAreNewMemory(t *testing.T) {
	for _, c := range []int{-1, 0x40, 0x41, 0x61, 0xB5, 0xDF, 0x130, 0x3C2, 0xFB03, 0xFF21, 0xD800, 1 << 40} {
		first, second := fold.One(c), fold.One(c)
		kept := slices.Clone(first)
		spoil(first)
		if !slices.Equal(second, kept) {
			t.Errorf("%#x: two results share memory", c)
		}
		mustFold(t, c, kept...)
		mustFoldAll(t, []int{c, c}, append(slices.Clone(kept), kept...)...)
	}
}

// R2: a result of All that is changed afterwards changes neither the argument nor another result.
func TestResultsOfAllAreNewMemory(t *testing.T) {
	for _, s := range lists() {
		argument := slices.Clone(s)
		first, second := fold.All(argument), fold.All(argument)
		kept := slices.Clone(first)
		spoil(first)
		if !slices.Equal(second, kept) {
			t.Errorf("All(%#x): two results share memory", s)
		}
		if !slices.Equal(argument, s) {
			t.Errorf("All(%#x): the result shares memory with the argument", s)
		}
		mustFoldAll(t, s, kept...)
	}
}

// R2: a result that is the same as the argument shares no memory with it either, nor with what stands behind its length.
func TestResultsOfResultsAreNewMemory(t *testing.T) {
	for _, s := range lists() {
		whole := append(fold.All(s), 0x61, 0x62)
		kept := slices.Clone(whole)
		spoil(fold.All(whole[:len(whole)-2]))
		if !slices.Equal(whole, kept) {
			t.Errorf("the result shares memory with the argument: %#x is now %#x", kept, whole)
		}
	}
}

// R2, R6: the argument stays as it is, with what stands behind its length, which is not read either; a result stays when the argument is changed afterwards.
func TestArgumentStays(t *testing.T) {
	for _, s := range lists() {
		whole := append(slices.Clone(s), 0x5A, 0xFB05, 0xDF)
		kept := slices.Clone(whole)
		want := fold.All(slices.Clone(s))
		got := fold.All(whole[:len(s)])
		if !slices.Equal(whole, kept) {
			t.Errorf("All changed %#x into %#x", kept, whole)
		}
		spoil(whole)
		if !slices.Equal(got, want) {
			t.Errorf("All(%#x) = %#x; want %#x", s, got, want)
		}
	}
}

// R3: calls in turn and from several goroutines at once do not disturb each other.
func TestCallsAtOnce(t *testing.T) {
	shared := []int{0x41, 0xDF, 0xFB03, 0x41, -1}
	var group sync.WaitGroup
	for range 8 {
		group.Go(func() {
			for range 50 {
				mustFoldAll(t, shared, 0x61, 0x73, 0x73, 0x66, 0x66, 0x69, 0x61, -1)
				mustFold(t, 0x130, 0x69, 0x307)
				mustStay(t, 0x131)
			}
		})
	}
	group.Wait()
}
