package utf8_test

import (
	"bytes"
	"math"
	"slices"
	"sync"
	"testing"

	"sobriquet/api"
	"sobriquet/utf8"
)

// mustPut checks that b is what Put returns for s.
func mustPut(t *testing.T, s []int, b ...byte) {
	t.Helper()
	if got, at, e := utf8.Put(s); !bytes.Equal(got, b) || at != 0 || e != api.OK {
		t.Errorf("Put(%#x) = % X, %d, %d; want % X", s, got, at, e, b)
	}
}

// mustGet checks that s is what Get returns for b.
func mustGet(t *testing.T, b []byte, s ...int) {
	t.Helper()
	if got, at, e := utf8.Get(b); !slices.Equal(got, s) || at != 0 || e != api.OK {
		t.Errorf("Get(% X) = %#x, %d, %d; want %#x", b, got, at, e, s)
	}
}

// mustOne checks that One finds the encoding of c, of n bytes, at the beginning of b.
func mustOne(t *testing.T, b []byte, c, n int) {
	t.Helper()
	if got, size := utf8.One(b); got != c || size != n {
		t.Errorf("One(% X) = %#x, %d; want %#x, %d", b, got, size, c, n)
	}
}

// mustEncode checks that b is the encoding of c, by all three calls, and that One finds it with more behind it too.
func mustEncode(t *testing.T, c int, b ...byte) {
	t.Helper()
	mustPut(t, []int{c}, b...)
	mustGet(t, b, c)
	mustOne(t, b, c, len(b))
	for _, more := range []byte{0x00, 0x41, 0x80, 0xBF, 0xC0, 0xC3, 0xE2, 0xF0, 0xFF} {
		mustOne(t, append(slices.Clone(b), more), c, len(b))
	}
}

// mustNotPut checks that Put rejects s with the index at.
func mustNotPut(t *testing.T, s []int, at int) {
	t.Helper()
	if b, got, e := utf8.Put(s); len(b) != 0 || got != at || e != api.ErrNot {
		t.Errorf("Put(%#x) = % X, %d, %d; want none, %d and ErrNot", s, b, got, e, at)
	}
}

// mustNotGet checks that Get rejects b with the offset at.
func mustNotGet(t *testing.T, b []byte, at int) {
	t.Helper()
	if s, got, e := utf8.Get(b); len(s) != 0 || got != at || e != api.ErrBytes {
		t.Errorf("Get(% X) = %#x, %d, %d; want none, %d and ErrBytes", b, s, got, e, at)
	}
}

// mustBeginNone checks that no encoding begins with b, and that Get tells so wherever b stands.
func mustBeginNone(t *testing.T, b ...byte) {
	t.Helper()
	mustOne(t, b, 0, 0)
	mustNotGet(t, b, 0)
	for _, ahead := range []string{"a", "\x00", "é", "€", "😀", "aé€😀"} {
		mustNotGet(t, append([]byte(ahead), b...), len(ahead))
		mustNotGet(t, slices.Concat([]byte(ahead), b, []byte("aé")), len(ahead))
		mustNotGet(t, slices.Concat([]byte(ahead), b, []byte{0xFF}, b), len(ahead))
	}
}

// P13.1: the examples of the chapter.
func TestExamples(t *testing.T) {
	mustEncode(t, 0x20AC, 0xE2, 0x82, 0xAC)
	mustNotGet(t, []byte{0xC0, 0x80}, 0)
}

// P13.1: the scalars at both ends of each length, and those beside them.
func TestEndsOfEachLength(t *testing.T) {
	mustEncode(t, 0, 0x00)
	mustEncode(t, 1, 0x01)
	mustEncode(t, 0x7E, 0x7E)
	mustEncode(t, 0x7F, 0x7F)
	mustEncode(t, 0x80, 0xC2, 0x80)
	mustEncode(t, 0x81, 0xC2, 0x81)
	mustEncode(t, 0x7FE, 0xDF, 0xBE)
	mustEncode(t, 0x7FF, 0xDF, 0xBF)
	mustEncode(t, 0x800, 0xE0, 0xA0, 0x80)
	mustEncode(t, 0x801, 0xE0, 0xA0, 0x81)
	mustEncode(t, 0xFFFE, 0xEF, 0xBF, 0xBE)
	mustEncode(t, 0xFFFF, 0xEF, 0xBF, 0xBF)
	mustEncode(t, 0x10000, 0xF0, 0x90, 0x80, 0x80)
	mustEncode(t, 0x10001, 0xF0, 0x90, 0x80, 0x81)
	mustEncode(t, api.MaxScalar-1, 0xF4, 0x8F, 0xBF, 0xBE)
	mustEncode(t, api.MaxScalar, 0xF4, 0x8F, 0xBF, 0xBF)
}

// P13.1: scalars whose bits fill or leave each byte, and those beside the surrogates.
func TestScalarsInside(t *testing.T) {
	mustEncode(t, 0x41, 0x41)
	mustEncode(t, 0xBF, 0xC2, 0xBF)
	mustEncode(t, 0xC0, 0xC3, 0x80)
	mustEncode(t, 0xE9, 0xC3, 0xA9)
	mustEncode(t, 0xFFF, 0xE0, 0xBF, 0xBF)
	mustEncode(t, 0x1000, 0xE1, 0x80, 0x80)
	mustEncode(t, 0x6C34, 0xE6, 0xB0, 0xB4)
	mustEncode(t, 0xD7FF, 0xED, 0x9F, 0xBF)
	mustEncode(t, 0xE000, 0xEE, 0x80, 0x80)
	mustEncode(t, 0xFEFF, 0xEF, 0xBB, 0xBF)
	mustEncode(t, 0xFFFD, 0xEF, 0xBF, 0xBD)
	mustEncode(t, 0x1F600, 0xF0, 0x9F, 0x98, 0x80)
	mustEncode(t, 0x3FFFF, 0xF0, 0xBF, 0xBF, 0xBF)
	mustEncode(t, 0x40000, 0xF1, 0x80, 0x80, 0x80)
	mustEncode(t, 0xFFFFF, 0xF3, 0xBF, 0xBF, 0xBF)
	mustEncode(t, 0x100000, 0xF4, 0x80, 0x80, 0x80)
}

// P13.1: several scalars, in their order.
func TestSeveralScalars(t *testing.T) {
	s := []int{0x61, 0xE9, 0x6C34, 0x1F600, 0x1F600, 0xE9, 0x61, 0, 0x20AC}
	b := []byte("aé水😀😀éa\x00€")
	mustPut(t, s, b...)
	mustGet(t, b, s...)
	mustPut(t, []int{0x65, 0x301, 0xE9}, 0x65, 0xCC, 0x81, 0xC3, 0xA9)
	mustGet(t, []byte{0x65, 0xCC, 0x81, 0xC3, 0xA9}, 0x65, 0x301, 0xE9)
	mustGet(t, []byte{0xEF, 0xBB, 0xBF, 0xEF, 0xBB, 0xBF, 0x41}, 0xFEFF, 0xFEFF, 0x41)
}

// P13.1, R2: the empty list and no bytes, nil or not.
func TestNothing(t *testing.T) {
	mustPut(t, nil)
	mustPut(t, []int{})
	mustPut(t, make([]int, 0, 8))
	mustGet(t, nil)
	mustGet(t, []byte{})
	mustGet(t, make([]byte, 0, 8))
	mustOne(t, nil, 0, 0)
	mustOne(t, []byte{}, 0, 0)
	mustOne(t, make([]byte, 0, 8), 0, 0)
}

// noScalars are numbers that are no scalars, among them those that are the same as a scalar but for bits that a smaller number does not have.
func noScalars() []int {
	l := []int{
		math.MinInt, math.MinInt + 1, math.MinInt32 - 1, math.MinInt32, -1 << 40, -api.MaxScalar - 1, -api.MaxScalar, -0x100, -0x80, -2, -1,
		0xD800, 0xD801, 0xD83D, 0xDBFF, 0xDC00, 0xDE00, 0xDFFE, 0xDFFF,
		api.MaxScalar + 1, api.MaxScalar + 2, 0x1FFFFF, 0x200000, 0x3FFFFFF, 0x4000000, 1 << 30,
		math.MaxInt32, math.MaxInt32 + 1, math.MaxUint32, math.MaxUint32 + 1, 1 << 40, 1 << 62, math.MaxInt - 1, math.MaxInt,
	}
	for _, c := range []int{0, 0x41, 0xE9, 0x20AC, 0x1F600, api.MaxScalar} {
		for _, shift := range []int{21, 31, 32, 48, 62, 63} {
			l = append(l, c+1<<shift, c-1<<shift)
		}
	}
	return l
}

// P13.1, R1, R5: a number that is no scalar has no encoding, whatever its size and wherever it stands.
func TestNumbersThatAreNoScalars(t *testing.T) {
	for _, c := range noScalars() {
		mustNotPut(t, []int{c}, 0)
		mustNotPut(t, []int{c, 0x61}, 0)
		mustNotPut(t, []int{0x61, c}, 1)
		mustNotPut(t, []int{0x1F600, 0x20AC, 0xE9, c, 0x61}, 3)
	}
	for c := 0xD800; c <= 0xDFFF; c++ {
		mustNotPut(t, []int{0x20AC, c, 0x61}, 1)
	}
}

// P13.1: of several numbers that are no scalars, the first one is told.
func TestFirstOfSeveralNumbers(t *testing.T) {
	l := noScalars()
	mustNotPut(t, l, 0)
	for i, c := range l {
		mustNotPut(t, []int{0x61, 0x1F600, c, l[len(l)-1-i], 0x61, -1}, 2)
	}
	mustNotPut(t, append(slices.Repeat([]int{0x20AC}, 1000), 0xDFFF, 0x61, 0xD800, -1), 1000)
	// The two halves of a pair stand for one scalar in another encoding only.
	mustNotPut(t, []int{0x61, 0xD83D, 0xDE00}, 1)
}

// P13.1: a further byte that none precedes begins nothing.
func TestStrayFurtherBytes(t *testing.T) {
	for x := 0x80; x <= 0xBF; x++ {
		mustBeginNone(t, byte(x))
		mustBeginNone(t, byte(x), 0x41)
		mustBeginNone(t, byte(x), 0x80)
		mustBeginNone(t, byte(x), 0x80, 0x80, 0x80)
		mustNotGet(t, []byte{0xC3, 0xA9, byte(x)}, 2)
		mustNotGet(t, []byte{0xE2, 0x82, 0xAC, byte(x), 0x41}, 3)
		mustNotGet(t, []byte{0xF0, 0x9F, 0x98, 0x80, byte(x), 0x80}, 4)
	}
}

// P13.1: bytes with which no encoding begins, whatever follows them.
func TestBytesThatBeginNoEncoding(t *testing.T) {
	for _, x := range []byte{0xC0, 0xC1, 0xF5, 0xF6, 0xF7, 0xF8, 0xF9, 0xFA, 0xFB, 0xFC, 0xFD, 0xFE, 0xFF} {
		mustBeginNone(t, x)
		mustBeginNone(t, x, 0x41)
		mustBeginNone(t, x, x)
		for count := 1; count <= 6; count++ {
			for _, more := range []byte{0x80, 0x88, 0x90, 0xBF} {
				mustBeginNone(t, append([]byte{x}, bytes.Repeat([]byte{more}, count)...)...)
			}
		}
	}
}

// P13.1: encodings of scalars in more bytes than they have.
func TestOverlongEncodings(t *testing.T) {
	mustBeginNone(t, 0xC0, 0x80)
	mustBeginNone(t, 0xC1, 0x81)
	mustBeginNone(t, 0xC1, 0xBF)
	mustBeginNone(t, 0xE0, 0x80, 0x80)
	mustBeginNone(t, 0xE0, 0x81, 0x81)
	mustBeginNone(t, 0xE0, 0x82, 0x80)
	mustBeginNone(t, 0xE0, 0x9F, 0xBF)
	mustBeginNone(t, 0xF0, 0x80, 0x80, 0x80)
	mustBeginNone(t, 0xF0, 0x80, 0x81, 0x81)
	mustBeginNone(t, 0xF0, 0x80, 0x9F, 0xBF)
	mustBeginNone(t, 0xF0, 0x80, 0xA0, 0x80)
	mustBeginNone(t, 0xF0, 0x82, 0x82, 0xAC)
	mustBeginNone(t, 0xF0, 0x8F, 0xBF, 0xBF)
}

// P13.1: encodings of surrogates, also of two that are a pair.
func TestEncodingsOfSurrogates(t *testing.T) {
	for _, b := range [][]byte{{0xED, 0xA0, 0x80}, {0xED, 0xA0, 0x81}, {0xED, 0xAF, 0xBF}, {0xED, 0xB0, 0x80}, {0xED, 0xBF, 0xBE}, {0xED, 0xBF, 0xBF}, {0xED, 0xA0, 0xBD, 0xED, 0xB8, 0x80}, {0xF0, 0x8D, 0xA0, 0x80}, {0xF0, 0x8D, 0xBF, 0xBF}} {
		mustBeginNone(t, b...)
	}
}

// P13.1: encodings of numbers above MaxScalar.
func TestEncodingsAboveMaxScalar(t *testing.T) {
	for _, b := range [][]byte{{0xF4, 0x90, 0x80, 0x80}, {0xF4, 0x90, 0x80, 0x81}, {0xF4, 0xBF, 0xBF, 0xBF}, {0xF5, 0x80, 0x80, 0x80}, {0xF7, 0xBF, 0xBF, 0xBF}, {0xF8, 0x88, 0x80, 0x80, 0x80}, {0xFB, 0xBF, 0xBF, 0xBF, 0xBF}, {0xFC, 0x84, 0x80, 0x80, 0x80, 0x80}, {0xFD, 0xBF, 0xBF, 0xBF, 0xBF, 0xBF}} {
		mustBeginNone(t, b...)
	}
}

// whole are encodings of each length, with their scalars.
func whole() map[int][]byte {
	return map[int][]byte{
		0x80: {0xC2, 0x80}, 0x7FF: {0xDF, 0xBF},
		0x800: {0xE0, 0xA0, 0x80}, 0x20AC: {0xE2, 0x82, 0xAC}, 0xD7FF: {0xED, 0x9F, 0xBF}, 0xFFFF: {0xEF, 0xBF, 0xBF},
		0x10000: {0xF0, 0x90, 0x80, 0x80}, 0x1F600: {0xF0, 0x9F, 0x98, 0x80}, api.MaxScalar: {0xF4, 0x8F, 0xBF, 0xBF},
	}
}

// P13.1: encodings that end too soon, at the end of the bytes and ahead of others; the offset is that of their first byte.
func TestIncompleteEncodings(t *testing.T) {
	for _, b := range whole() {
		for count := 1; count < len(b); count++ {
			part := b[:count:count]
			mustBeginNone(t, part...)
			for _, behind := range []string{"A", "\x00", "\x7F", "AAAA", "é", "€", "😀", "\xC0", "\xFF"} {
				mustBeginNone(t, append(part, behind...)...)
			}
			mustBeginNone(t, slices.Concat(part, b)...)
		}
	}
}

// P13.1: each byte behind the first one is to be a further byte.
func TestOtherBytesInside(t *testing.T) {
	for _, b := range whole() {
		for at := 1; at < len(b); at++ {
			for x := range 256 {
				if x < 0x80 || x >= 0xC0 {
					changed := slices.Clone(b)
					changed[at] = byte(x)
					mustBeginNone(t, changed...)
				}
			}
		}
	}
}

// P13.1: One stops behind the first encoding, whatever stands there.
func TestOneWithMoreBehind(t *testing.T) {
	for c, b := range whole() {
		for x := range 256 {
			mustOne(t, append(slices.Clone(b), byte(x)), c, len(b))
			mustOne(t, append(slices.Clone(b), byte(x), 0x80, 0x80), c, len(b))
		}
	}
	for x := range 256 {
		mustOne(t, []byte{0x00, byte(x)}, 0, 1)
		mustOne(t, []byte{0x7F, byte(x)}, 0x7F, 1)
	}
}

// R2, R6: bytes behind the length are not read, though they would complete an encoding or make another one.
func TestBytesBehindTheLength(t *testing.T) {
	for _, b := range whole() {
		for count := range len(b) {
			mustOne(t, b[:count], 0, 0)
			if count > 0 {
				mustNotGet(t, b[:count], 0)
			}
		}
	}
	mustGet(t, []byte{0x41, 0xC3, 0xA9, 0xFF}[:3], 0x41, 0xE9)
	mustNotGet(t, []byte{0x41, 0xC3, 0xA9}[:2], 1)
	mustPut(t, []int{0x41, 0xE9, -1, 0x42}[:2], 0x41, 0xC3, 0xA9)
	mustPut(t, []int{0x41}[:0])
}

// fill sets every item of l, its spare capacity too.
func fill[T any](l []T, x T) {
	full := l[:cap(l)]
	for i := range full {
		full[i] = x
	}
}

// lists are lists of scalars of many lengths.
func lists() [][]int {
	return [][]int{nil, {}, {0}, {0x41}, {0xE9}, {0x20AC}, {0x1F600}, {0x41, 0x42, 0x43}, {0x61, 0xE9, 0x20AC, 0x1F600}, slices.Repeat([]int{0x41, 0xE9, 0x20AC}, 100)}
}

// R2: a result of Put that is changed afterwards, its spare capacity too, changes no other one, and the argument stays.
func TestResultsOfPutAreNewMemory(t *testing.T) {
	for _, s := range lists() {
		whole := append(slices.Clone(s), 0x5A, 0x20AC, -1)
		kept := slices.Clone(whole)
		first, _, _ := utf8.Put(whole[:len(s)])
		second, _, _ := utf8.Put(whole[:len(s)])
		want := bytes.Clone(first)
		fill(first, 0x58)
		if !bytes.Equal(second, want) || !slices.Equal(whole, kept) {
			t.Errorf("Put(%#x): results share memory, or the argument is now %#x", s, whole)
		}
		fill(whole, 0x58)
		if !bytes.Equal(second, want) {
			t.Errorf("Put(%#x) has changed with its argument", s)
		}
		mustPut(t, s, want...)
	}
}

// R2: a result of Get that is changed afterwards, its spare capacity too, changes no other one, and the argument stays.
func TestResultsOfGetAreNewMemory(t *testing.T) {
	for _, s := range lists() {
		b, _, _ := utf8.Put(s)
		whole := append(bytes.Clone(b), 0x5A, 0xC3, 0xA9)
		kept := bytes.Clone(whole)
		first, _, _ := utf8.Get(whole[:len(b)])
		second, _, _ := utf8.Get(whole[:len(b)])
		utf8.One(whole[:len(b)])
		fill(first, -1)
		if !slices.Equal(second, s) || !bytes.Equal(whole, kept) {
			t.Errorf("Get(% X): results share memory, or the argument is now % X", b, whole)
		}
		fill(whole, 0xFF)
		if !slices.Equal(second, s) {
			t.Errorf("Get(% X) has changed with its argument", b)
		}
		mustGet(t, b, s...)
	}
}

// R2, R4: arguments that are rejected stay as they are too.
func TestRejectedArgumentsStay(t *testing.T) {
	s := []int{0x41, 0x20AC, 0xD800, -1, 0x42}
	kept := slices.Clone(s)
	mustNotPut(t, s[:4], 2)
	if !slices.Equal(s, kept) {
		t.Errorf("Put changed %#x into %#x", kept, s)
	}
	b := []byte{0x41, 0xE2, 0x82, 0xAC, 0xED, 0xA0, 0x80, 0x42, 0xFF}
	before := bytes.Clone(b)
	mustNotGet(t, b[:8], 4)
	mustOne(t, b[4:8], 0, 0)
	if !bytes.Equal(b, before) {
		t.Errorf("Get or One changed % X into % X", before, b)
	}
}

// R3: calls in turn and from several goroutines at once do not disturb each other.
func TestCallsAtOnce(t *testing.T) {
	s, b := []int{0x41, 0xE9, 0x20AC, 0x1F600}, []byte("Aé€😀")
	var group sync.WaitGroup
	for range 8 {
		group.Go(func() {
			for range 200 {
				mustPut(t, s, b...)
				mustNotPut(t, []int{0x41, -1}, 1)
				mustGet(t, b, s...)
				mustNotGet(t, b[:2], 1)
				mustOne(t, b[1:], 0xE9, 2)
				mustOne(t, b[2:], 0, 0)
			}
		})
	}
	group.Wait()
}
