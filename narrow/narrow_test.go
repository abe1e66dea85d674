package narrow_test

import (
	"bytes"
	"math"
	"slices"
	"sync"
	"testing"

	"sobriquet/api"
	"sobriquet/narrow"
)

// The four kinds that have one byte per character.
var narrowKinds = []int{api.Numeric, api.Printable, api.Ia5, api.Visible}

// scalars returns the numbers of the bytes of text.
func scalars(text string) []int {
	var s []int
	for _, x := range []byte(text) {
		s = append(s, int(x))
	}
	return s
}

// mustPut checks that the bytes of text are what Put returns for its characters.
func mustPut(t *testing.T, kind int, text string) {
	t.Helper()
	if b, at, e := narrow.Put(kind, scalars(text)); string(b) != text || at != 0 || e != api.OK {
		t.Errorf("Put(%d, %q) = % X, %d, %d", kind, text, b, at, e)
	}
}

// mustGet checks that the characters of text are what Get returns for its bytes.
func mustGet(t *testing.T, kind int, text string) {
	t.Helper()
	if s, at, e := narrow.Get(kind, []byte(text)); !slices.Equal(s, scalars(text)) || at != 0 || e != api.OK {
		t.Errorf("Get(%d, %q) = %#x, %d, %d", kind, text, s, at, e)
	}
}

// mustBoth checks that text is a string of the kind, by both calls.
func mustBoth(t *testing.T, kind int, text string) {
	t.Helper()
	mustPut(t, kind, text)
	mustGet(t, kind, text)
}

// mustNotPut checks that Put rejects s with the index at and the error want.
func mustNotPut(t *testing.T, kind int, s []int, at int, want api.Errno) {
	t.Helper()
	if b, got, e := narrow.Put(kind, s); len(b) != 0 || got != at || e != want {
		t.Errorf("Put(%d, %#x) = % X, %d, %d; want none, %d, %d", kind, s, b, got, e, at, want)
	}
}

// mustNotGet checks that Get rejects the bytes of text with the offset at and the error want.
func mustNotGet(t *testing.T, kind int, text string, at int, want api.Errno) {
	t.Helper()
	if s, got, e := narrow.Get(kind, []byte(text)); len(s) != 0 || got != at || e != want {
		t.Errorf("Get(%d, %q) = %#x, %d, %d; want none, %d, %d", kind, text, s, got, e, at, want)
	}
}

// mustNeither checks that text is no string of the kind, by both calls, with the place at of the first fault.
func mustNeither(t *testing.T, kind int, text string, at int) {
	t.Helper()
	mustNotPut(t, kind, scalars(text), at, api.ErrNot)
	mustNotGet(t, kind, text, at, api.ErrRepertoire)
}

// P15.1: the example of the chapter.
func TestExample(t *testing.T) {
	mustNotGet(t, api.Printable, "a*", 1, api.ErrRepertoire)
}

// P15.1: strings of each kind.
func TestStrings(t *testing.T) {
	mustBoth(t, api.Numeric, "0123456789")
	mustBoth(t, api.Numeric, " 262 48 0 ")
	mustBoth(t, api.Printable, "ABCDEFGHIJKLMNOPQRSTUVWXYZ")
	mustBoth(t, api.Printable, "abcdefghijklmnopqrstuvwxyz")
	mustBoth(t, api.Printable, "0123456789")
	mustBoth(t, api.Printable, " '()+,-./:=?")
	mustBoth(t, api.Printable, "Is it (or not) John's: +1-23/4, a=b.?")
	mustBoth(t, api.Ia5, "someone@example.com")
	mustBoth(t, api.Ia5, "\x00\x01\t\r\n\x1B\x1F !~\x7F")
	mustBoth(t, api.Visible, " !\"#$%&'()*+,-./0123456789:;<=>?@AZ[\\]^_`az{|}~")
}

// P15.1: characters beside those of each kind, with their place.
func TestStringsOfNoKind(t *testing.T) {
	mustNeither(t, api.Numeric, "12-3", 2)
	mustNeither(t, api.Numeric, "+1", 0)
	mustNeither(t, api.Numeric, "1\t2", 1)
	mustNeither(t, api.Numeric, "1/", 1)
	mustNeither(t, api.Numeric, "9:", 1)
	mustNeither(t, api.Numeric, "12.", 2)
	mustNeither(t, api.Numeric, "A", 0)
	for _, sign := range "!\"#$%&*;<>@[\\]^_`{|}~" {
		mustNeither(t, api.Printable, "a"+string(sign)+"b", 1)
		mustNeither(t, api.Numeric, "1"+string(sign)+"2", 1)
		mustBoth(t, api.Ia5, "a"+string(sign)+"b")
		mustBoth(t, api.Visible, "a"+string(sign)+"b")
	}
	for c := range 0x20 {
		mustNeither(t, api.Numeric, "12"+string(rune(c)), 2)
		mustNeither(t, api.Printable, "12"+string(rune(c)), 2)
		mustNeither(t, api.Visible, "12"+string(rune(c)), 2)
		mustBoth(t, api.Ia5, "12"+string(rune(c)))
	}
	mustNeither(t, api.Printable, "\x7F", 0)
	mustNeither(t, api.Visible, "ab\x7F", 2)
	mustNeither(t, api.Ia5, "ab\x80", 2)
	mustNeither(t, api.Ia5, "\xFF", 0)
	mustNeither(t, api.Ia5, "a\xC3\xA9", 1)
}

// P15.1: of several characters at fault, the first one is told.
func TestFirstOfSeveral(t *testing.T) {
	mustNeither(t, api.Numeric, "1 2ab", 3)
	mustNeither(t, api.Printable, "a*b*", 1)
	mustNeither(t, api.Printable, "*a*b", 0)
	mustNeither(t, api.Ia5, "ab\x80\xFFc\x81", 2)
	mustNeither(t, api.Visible, "ab~\x7F\x00\x80", 3)
	for _, kind := range narrowKinds {
		ahead := string(bytes.Repeat([]byte("0"), 1000))
		mustNeither(t, kind, ahead+"\x80"+ahead+"\x81", 1000)
		mustNotPut(t, kind, []int{0x30, 0x31, -1, math.MaxInt, 0x30, 0x100}, 2, api.ErrNot)
		mustNotPut(t, kind, []int{0x30, 0x31, math.MaxInt, -1, 0x30, 0x100}, 2, api.ErrNot)
	}
}

// P15.1, R2: the empty list and no bytes, nil or not.
func TestNothing(t *testing.T) {
	for _, kind := range narrowKinds {
		for _, s := range [][]int{nil, {}, make([]int, 0, 8)} {
			if b, at, e := narrow.Put(kind, s); len(b) != 0 || at != 0 || e != api.OK {
				t.Errorf("Put(%d, none) = % X, %d, %d", kind, b, at, e)
			}
		}
		for _, b := range [][]byte{nil, {}, make([]byte, 0, 8)} {
			if s, at, e := narrow.Get(kind, b); len(s) != 0 || at != 0 || e != api.OK {
				t.Errorf("Get(%d, none) = %#x, %d, %d", kind, s, at, e)
			}
		}
	}
}

// shifted returns each number of l with one bit added or taken away that a number of fewer bits does not have.
func shifted(l []int) []int {
	var all []int
	for _, x := range l {
		for _, shift := range []int{7, 8, 16, 21, 24, 31, 32, 48, 62, 63} {
			all = append(all, x+1<<shift, x-1<<shift)
		}
	}
	return all
}

// farNumbers are numbers that are no character of any of the four kinds.
func farNumbers() []int {
	l := []int{
		math.MinInt, math.MinInt + 1, math.MinInt32 - 1, math.MinInt32, -1 << 40, -0x10000, -0x100, -0x80, -0x41, -0x30, -0x20, -2, -1,
		0x80, 0x81, 0xA0, 0xBF, 0xE9, 0xFF, 0x100, 0x17F, 0x2212, 0xD800, 0xDFFF, 0xFFFF, api.MaxScalar, api.MaxScalar + 1,
		// Digits, letters and signs of other scripts, which are none of these kinds'.
		0xB2, 0x660, 0x966, 0x391, 0x410, 0x212A, 0x3000, 0xFF01, 0xFF10, 0xFF19, 0xFF21, 0xFF5A, 0x1D7CE,
		math.MaxInt32, math.MaxInt32 + 1, math.MaxUint32, math.MaxUint32 + 1, 1 << 40, 1 << 62, math.MaxInt - 1, math.MaxInt,
	}
	return append(l, shifted([]int{0, 0x20, 0x30, 0x39, 0x3D, 0x41, 0x5A, 0x61, 0x7A, 0x7E, 0x7F})...)
}

// P15.1, R1, R5: numbers far below and above the characters are none, whatever their lowest bits say.
func TestNumbersThatAreNoCharacters(t *testing.T) {
	for _, kind := range narrowKinds {
		for _, c := range farNumbers() {
			if narrow.Has(kind, c) {
				t.Errorf("Has(%d, %#x) = true", kind, c)
			}
			mustNotPut(t, kind, []int{c}, 0, api.ErrNot)
			mustNotPut(t, kind, []int{c, 0x30}, 0, api.ErrNot)
			mustNotPut(t, kind, []int{0x30, c}, 1, api.ErrNot)
			mustNotPut(t, kind, []int{0x20, 0x30, 0x39, c, 0x30, c}, 3, api.ErrNot)
		}
	}
}

// otherKinds are the other kinds, and numbers that are no kind.
func otherKinds() []int {
	l := []int{api.Raw, api.Utf8, api.Teletex, api.Universal, api.Bmp, math.MinInt, math.MinInt + 1, math.MinInt32, math.MaxInt32, math.MaxUint32, math.MaxInt - 1, math.MaxInt}
	for kind := -300; kind <= 300; kind++ {
		if !slices.Contains(narrowKinds, kind) {
			l = append(l, kind)
		}
	}
	return append(l, shifted(narrowKinds)...)
}

// P15.1, R1, R4: a kind that is none of the four has no characters, and its error comes first, whatever else is at fault, with at 0.
func TestOtherKinds(t *testing.T) {
	for _, kind := range otherKinds() {
		for c := -3; c < 0x103; c++ {
			if narrow.Has(kind, c) {
				t.Errorf("Has(%d, %#x) = true", kind, c)
			}
		}
		for _, c := range farNumbers() {
			if narrow.Has(kind, c) {
				t.Errorf("Has(%d, %#x) = true", kind, c)
			}
		}
		for _, s := range [][]int{nil, {}, {0x30}, {0x20, 0x30, 0x31}, {0x30, 0x41}, {0x30, 0x80}, {-1}, {0x30, math.MaxInt}} {
			mustNotPut(t, kind, s, 0, api.ErrKind)
		}
		for _, text := range []string{"", "0", "12 3", "a", "a*", "1\x00", "1\x80", "\xFF", "1\xC3\xA9"} {
			mustNotGet(t, kind, text, 0, api.ErrKind)
		}
	}
}

// P15.1: the same string may be one of a kind and not of another.
func TestSameStringInSeveralKinds(t *testing.T) {
	for _, kind := range narrowKinds {
		mustBoth(t, kind, "12 3")
	}
	mustNeither(t, api.Numeric, "1=a", 1)
	mustBoth(t, api.Printable, "1=a")
	mustNeither(t, api.Printable, "1=a_", 3)
	mustBoth(t, api.Visible, "1=a_")
	mustNeither(t, api.Visible, "1=a_\n", 4)
	mustBoth(t, api.Ia5, "1=a_\n")
}

// R6: what stands behind the length is neither told nor at fault.
func TestMemoryBehindTheLength(t *testing.T) {
	for _, kind := range narrowKinds {
		s := []int{0x31, 0x20, 0x32, -1, 0x80}
		if b, at, e := narrow.Put(kind, s[:3]); string(b) != "1 2" || at != 0 || e != api.OK {
			t.Errorf("Put(%d, %#x) = % X, %d, %d", kind, s[:3], b, at, e)
		}
		mustNotPut(t, kind, s[:4], 3, api.ErrNot)
		b := []byte("1 2\x80\xFF")
		if got, at, e := narrow.Get(kind, b[:3]); !slices.Equal(got, s[:3]) || at != 0 || e != api.OK {
			t.Errorf("Get(%d, % X) = %#x, %d, %d", kind, b[:3], got, at, e)
		}
		if got, at, e := narrow.Get(kind, b[3:3]); len(got) != 0 || at != 0 || e != api.OK {
			t.Errorf("Get(%d, none) = %#x, %d, %d", kind, got, at, e)
		}
	}
}

// fill sets every item of l, its spare capacity too.
func fill[T any](l []T, x T) {
	full := l[:cap(l)]
	for i := range full {
		full[i] = x
	}
}

// texts are strings of many lengths that all four kinds have.
func texts() []string {
	return []string{"", "0", " ", "12", "123", "1 2 3", "01234567", "012345678", string(bytes.Repeat([]byte("31 "), 100))}
}

// R2: a result of Put that is changed afterwards, its spare capacity too, changes no other one, and the argument stays.
func TestResultsOfPutAreNewMemory(t *testing.T) {
	for _, kind := range narrowKinds {
		for _, text := range texts() {
			whole := append(scalars(text), 0x39, 0x20, -1)
			kept := slices.Clone(whole)
			first, _, _ := narrow.Put(kind, whole[:len(text)])
			second, _, _ := narrow.Put(kind, whole[:len(text)])
			fill(first, 0x58)
			if string(second) != text || !slices.Equal(whole, kept) {
				t.Errorf("Put(%d, %q): results share memory, or the argument is now %#x", kind, text, whole)
			}
			fill(whole, 0x58)
			if string(second) != text {
				t.Errorf("Put(%d, %q) has changed with its argument", kind, text)
			}
			mustPut(t, kind, text)
		}
	}
}

// R2: a result of Get that is changed afterwards, its spare capacity too, changes no other one, and the argument stays.
func TestResultsOfGetAreNewMemory(t *testing.T) {
	for _, kind := range narrowKinds {
		for _, text := range texts() {
			whole := append([]byte(text), 0x39, 0x20, 0x80)
			kept := bytes.Clone(whole)
			first, _, _ := narrow.Get(kind, whole[:len(text)])
			second, _, _ := narrow.Get(kind, whole[:len(text)])
			fill(first, -1)
			if !slices.Equal(second, scalars(text)) || !bytes.Equal(whole, kept) {
				t.Errorf("Get(%d, %q): results share memory, or the argument is now % X", kind, text, whole)
			}
			fill(whole, 0xFF)
			if !slices.Equal(second, scalars(text)) {
				t.Errorf("Get(%d, %q) has changed with its argument", kind, text)
			}
			mustGet(t, kind, text)
		}
	}
}

// R2, R4: arguments that are rejected stay as they are too.
func TestRejectedArgumentsStay(t *testing.T) {
	s := []int{0x30, 0x20, 0x80, -1, 0x31, 0x32}
	b := []byte{0x30, 0x20, 0x80, 0xFF, 0x31, 0x32}
	keptS, keptB := slices.Clone(s), bytes.Clone(b)
	for _, kind := range narrowKinds {
		mustNotPut(t, kind, s[:5], 2, api.ErrNot)
		if _, at, e := narrow.Get(kind, b[:5]); at != 2 || e != api.ErrRepertoire {
			t.Errorf("Get(%d, % X): %d, %d", kind, b[:5], at, e)
		}
	}
	mustNotPut(t, api.Utf8, s[:5], 0, api.ErrKind)
	if _, at, e := narrow.Get(api.Utf8, b[:5]); at != 0 || e != api.ErrKind {
		t.Errorf("Get(%d, % X): %d, %d", api.Utf8, b[:5], at, e)
	}
	if !slices.Equal(s, keptS) || !bytes.Equal(b, keptB) {
		t.Errorf("%#x is now %#x, and % X is now % X", keptS, s, keptB, b)
	}
}

// R3: calls in turn and from several goroutines at once do not disturb each other.
func TestCallsAtOnce(t *testing.T) {
	var group sync.WaitGroup
	for range 8 {
		group.Go(func() {
			for range 200 {
				mustBoth(t, api.Numeric, "12 3")
				mustBoth(t, api.Printable, "a=b?")
				mustBoth(t, api.Ia5, "a\x00\x7F")
				mustBoth(t, api.Visible, " ~")
				mustNeither(t, api.Numeric, "12-3", 2)
				mustNeither(t, api.Printable, "a*", 1)
				mustNeither(t, api.Visible, "\x7F", 0)
				mustNotPut(t, api.Bmp, []int{0x30, -1}, 0, api.ErrKind)
				mustNotGet(t, api.Teletex, "a", 0, api.ErrKind)
			}
		})
	}
	group.Wait()
}
