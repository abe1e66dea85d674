package wide_test

import (
	"bytes"
	"math"
	"slices"
	"sync"
	"testing"

	"sobriquet/api"
	"sobriquet/wide"
)

// mustPut checks that b is what Put returns for s.
func mustPut(t *testing.T, s []int, size int, b ...byte) {
	t.Helper()
	if got, at, e := wide.Put(s, size); !bytes.Equal(got, b) || at != 0 || e != api.OK {
		t.Errorf("Put(%#x, %d) = % X, %d, %d; want % X", s, size, got, at, e, b)
	}
}

// mustGet checks that s is what Get returns for b.
func mustGet(t *testing.T, b []byte, size int, s ...int) {
	t.Helper()
	if got, at, e := wide.Get(b, size); !slices.Equal(got, s) || at != 0 || e != api.OK {
		t.Errorf("Get(% X, %d) = %#x, %d, %d; want %#x", b, size, got, at, e, s)
	}
}

// mustEncode checks that b is the encoding of c, by both calls, alone and between others.
func mustEncode(t *testing.T, c int, b ...byte) {
	t.Helper()
	size := len(b)
	mustPut(t, []int{c}, size, b...)
	mustGet(t, b, size, c)
	a, z := slices.Concat(make([]byte, size-1), []byte{0x41}), slices.Concat(make([]byte, size-1), []byte{0x5A})
	mustPut(t, []int{0x41, c, c, 0x5A}, size, slices.Concat(a, b, b, z)...)
	mustGet(t, slices.Concat(a, b, b, z), size, 0x41, c, c, 0x5A)
}

// mustNotPut checks that Put rejects s with the index at and the error want.
func mustNotPut(t *testing.T, s []int, size, at int, want api.Errno) {
	t.Helper()
	if b, got, e := wide.Put(s, size); len(b) != 0 || got != at || e != want {
		t.Errorf("Put(%#x, %d) = % X, %d, %d; want none, %d, %d", s, size, b, got, e, at, want)
	}
}

// mustNotGet checks that Get rejects b with the offset at and the error want.
func mustNotGet(t *testing.T, b []byte, size, at int, want api.Errno) {
	t.Helper()
	if s, got, e := wide.Get(b, size); len(s) != 0 || got != at || e != want {
		t.Errorf("Get(% X, %d) = %#x, %d, %d; want none, %d, %d", b, size, s, got, e, at, want)
	}
}

// P14.1: the example of the chapter.
func TestExample(t *testing.T) {
	mustNotGet(t, []byte{0xD8, 0x00}, 2, 0, api.ErrRepertoire)
}

// P14.1: scalars in two bytes, each byte in its place.
func TestScalarsInTwoBytes(t *testing.T) {
	mustEncode(t, 0, 0x00, 0x00)
	mustEncode(t, 1, 0x00, 0x01)
	mustEncode(t, 0x41, 0x00, 0x41)
	mustEncode(t, 0x7F, 0x00, 0x7F)
	mustEncode(t, 0x80, 0x00, 0x80)
	mustEncode(t, 0xD8, 0x00, 0xD8)
	mustEncode(t, 0xFF, 0x00, 0xFF)
	mustEncode(t, 0x100, 0x01, 0x00)
	mustEncode(t, 0x1D8, 0x01, 0xD8)
	mustEncode(t, 0x20AC, 0x20, 0xAC)
	mustEncode(t, 0x7FFF, 0x7F, 0xFF)
	mustEncode(t, 0x8000, 0x80, 0x00)
	mustEncode(t, 0xD7FF, 0xD7, 0xFF)
	mustEncode(t, 0xE000, 0xE0, 0x00)
	mustEncode(t, 0xFEFF, 0xFE, 0xFF)
	mustEncode(t, 0xFFFE, 0xFF, 0xFE)
	mustEncode(t, 0xFFFF, 0xFF, 0xFF)
}

// P14.1: scalars in four bytes, each byte in its place.
func TestScalarsInFourBytes(t *testing.T) {
	mustEncode(t, 0, 0x00, 0x00, 0x00, 0x00)
	mustEncode(t, 1, 0x00, 0x00, 0x00, 0x01)
	mustEncode(t, 0x41, 0x00, 0x00, 0x00, 0x41)
	mustEncode(t, 0xFF, 0x00, 0x00, 0x00, 0xFF)
	mustEncode(t, 0x100, 0x00, 0x00, 0x01, 0x00)
	mustEncode(t, 0x20AC, 0x00, 0x00, 0x20, 0xAC)
	mustEncode(t, 0xD7FF, 0x00, 0x00, 0xD7, 0xFF)
	mustEncode(t, 0xE000, 0x00, 0x00, 0xE0, 0x00)
	mustEncode(t, 0xFEFF, 0x00, 0x00, 0xFE, 0xFF)
	mustEncode(t, 0xFFFF, 0x00, 0x00, 0xFF, 0xFF)
	mustEncode(t, 0x10000, 0x00, 0x01, 0x00, 0x00)
	mustEncode(t, 0x10001, 0x00, 0x01, 0x00, 0x01)
	mustEncode(t, 0x1D800, 0x00, 0x01, 0xD8, 0x00)
	mustEncode(t, 0x1DFFF, 0x00, 0x01, 0xDF, 0xFF)
	mustEncode(t, 0x1F600, 0x00, 0x01, 0xF6, 0x00)
	mustEncode(t, 0xABCDE, 0x00, 0x0A, 0xBC, 0xDE)
	mustEncode(t, 0x100000, 0x00, 0x10, 0x00, 0x00)
	mustEncode(t, api.MaxScalar-1, 0x00, 0x10, 0xFF, 0xFE)
	mustEncode(t, api.MaxScalar, 0x00, 0x10, 0xFF, 0xFF)
}

// P14.1: several scalars, in their order, in both sizes; the same bytes say something else in the other size.
func TestSeveralScalars(t *testing.T) {
	s := []int{0x61, 0xE9, 0x6C34, 0xE9, 0, 0x20AC}
	b := []byte{0x00, 0x61, 0x00, 0xE9, 0x6C, 0x34, 0x00, 0xE9, 0x00, 0x00, 0x20, 0xAC}
	mustPut(t, s, 2, b...)
	mustGet(t, b, 2, s...)
	s = []int{0x61, 0x1F600, 0x1F600, 0x20AC}
	b = []byte{0, 0, 0, 0x61, 0, 1, 0xF6, 0, 0, 1, 0xF6, 0, 0, 0, 0x20, 0xAC}
	mustPut(t, s, 4, b...)
	mustGet(t, b, 4, s...)
	mustGet(t, b, 2, 0, 0x61, 1, 0xF600, 1, 0xF600, 0, 0x20AC)
	// A mark of the byte order is a scalar as any other one, also where its bytes are the wrong way about.
	mustGet(t, []byte{0xFE, 0xFF, 0x00, 0x41}, 2, 0xFEFF, 0x41)
	mustGet(t, []byte{0xFF, 0xFE, 0x41, 0x00}, 2, 0xFFFE, 0x4100)
	mustNotGet(t, []byte{0xFF, 0xFE, 0x00, 0x00, 0x41, 0x00, 0x00, 0x00}, 4, 0, api.ErrRepertoire)
}

// P14.1, R2: the empty list and no bytes, nil or not.
func TestNothing(t *testing.T) {
	for _, size := range []int{2, 4} {
		mustPut(t, nil, size)
		mustPut(t, []int{}, size)
		mustPut(t, make([]int, 0, 8), size)
		mustGet(t, nil, size)
		mustGet(t, []byte{}, size)
		mustGet(t, make([]byte, 0, 8), size)
	}
}

// otherSizes are sizes that no character has, among them those that are 2 or 4 but for bits that a smaller number does not have.
func otherSizes() []int {
	l := []int{-8, -5, -4, -3, -2, -1, 0, 1, 3, 5, 6, 7, 8, 9, 12, 16, 32, 64, 0x100, 0x10000, -1 << 40, 1 << 40, math.MinInt32, math.MaxInt32, math.MaxUint32, math.MinInt, math.MinInt + 1, math.MaxInt - 1, math.MaxInt}
	for _, size := range []int{0, 2, 4} {
		for _, shift := range []int{8, 16, 31, 32, 62, 63} {
			l = append(l, size+1<<shift, size-1<<shift)
		}
	}
	return l
}

// P14.1, R1, R4: a size that is neither 2 nor 4 comes first, whatever else is at fault, and at is 0 beside it.
func TestOtherSizes(t *testing.T) {
	for _, size := range otherSizes() {
		for _, s := range [][]int{nil, {}, {0}, {0x41}, {0x41, 0x42, 0x43}, {0x41, 0x10000}, {-1}, {0x41, 0xD800}, {0x41, api.MaxScalar + 1}} {
			mustNotPut(t, s, size, 0, api.ErrArg)
		}
		for count := range 18 {
			mustNotGet(t, make([]byte, count), size, 0, api.ErrArg)
			mustNotGet(t, bytes.Repeat([]byte{0xD8}, count), size, 0, api.ErrArg)
			mustNotGet(t, append(make([]byte, 4), bytes.Repeat([]byte{0xFF}, count)...), size, 0, api.ErrArg)
		}
		mustNotGet(t, nil, size, 0, api.ErrArg)
	}
	for size := -300; size <= 300; size++ {
		if size != 2 && size != 4 {
			mustNotPut(t, []int{0x41}, size, 0, api.ErrArg)
			mustNotGet(t, make([]byte, 8), size, 0, api.ErrArg)
		}
	}
}

// P14.1: two bytes have no room for the scalars from 10000 on, which have all of their bits in four.
func TestScalarsThatTwoBytesHaveNoRoomFor(t *testing.T) {
	for _, c := range []int{0x10000, 0x10001, 0x10041, 0x1D800, 0x1F600, 0x1FFFF, 0x20000, 0xFFFFF, 0x100000, api.MaxScalar - 1, api.MaxScalar} {
		mustNotPut(t, []int{c}, 2, 0, api.ErrNot)
		mustNotPut(t, []int{c, 0x41}, 2, 0, api.ErrNot)
		mustNotPut(t, []int{0xFFFF, c}, 2, 1, api.ErrNot)
		mustNotPut(t, []int{0, 0x41, 0xFFFF, c, 0x41, c}, 2, 3, api.ErrNot)
		mustPut(t, []int{c}, 4, 0, byte(c>>16), byte(c>>8), byte(c))
	}
}

// noScalars are numbers that are no scalars, among them those that are the same as a scalar but for bits that a smaller number does not have.
func noScalars() []int {
	l := []int{
		math.MinInt, math.MinInt + 1, math.MinInt32 - 1, math.MinInt32, -1 << 40, -api.MaxScalar - 1, -api.MaxScalar, -0x10000, -0x100, -0x80, -2, -1,
		0xD800, 0xD801, 0xD83D, 0xDBFF, 0xDC00, 0xDE00, 0xDFFE, 0xDFFF,
		api.MaxScalar + 1, api.MaxScalar + 2, 0x1FFFFF, 0x200000, 0x1000000, 1 << 30, 1 << 31,
		math.MaxInt32, math.MaxInt32 + 1, math.MaxUint32, math.MaxUint32 + 1, 1 << 40, 1 << 62, math.MaxInt - 1, math.MaxInt,
	}
	for _, c := range []int{0, 0x41, 0xE9, 0x20AC, 0x1F600, api.MaxScalar} {
		for _, shift := range []int{21, 24, 31, 32, 48, 62, 63} {
			l = append(l, c+1<<shift, c-1<<shift)
		}
	}
	return l
}

// P14.1, R1, R5: a number that is no scalar has no encoding in either size, whatever its own size and wherever it stands.
func TestNumbersThatAreNoScalars(t *testing.T) {
	for _, size := range []int{2, 4} {
		for _, c := range noScalars() {
			mustNotPut(t, []int{c}, size, 0, api.ErrNot)
			mustNotPut(t, []int{c, 0x61}, size, 0, api.ErrNot)
			mustNotPut(t, []int{0x61, c}, size, 1, api.ErrNot)
			mustNotPut(t, []int{0, 0x20AC, 0xFFFF, c, 0x61}, size, 3, api.ErrNot)
		}
		for c := 0xD800; c <= 0xDFFF; c++ {
			mustNotPut(t, []int{0x20AC, c, 0x61}, size, 1, api.ErrNot)
		}
	}
}

// P14.1: of several numbers at fault, the first one is told, whether it is no scalar or has no room.
func TestFirstOfSeveralNumbers(t *testing.T) {
	l := noScalars()
	for _, size := range []int{2, 4} {
		mustNotPut(t, l, size, 0, api.ErrNot)
		for i, c := range l {
			mustNotPut(t, []int{0x61, 0x20AC, c, l[len(l)-1-i], 0x61, -1}, size, 2, api.ErrNot)
		}
		mustNotPut(t, append(slices.Repeat([]int{0x20AC}, 1000), 0xDFFF, 0x61, 0xD800, -1), size, 1000, api.ErrNot)
		// The two halves of a pair stand for one scalar in another encoding only.
		mustNotPut(t, []int{0x61, 0xD83D, 0xDE00}, size, 1, api.ErrNot)
	}
	for _, c := range l {
		mustNotPut(t, []int{0x61, 0x10000, c}, 2, 1, api.ErrNot)
		mustNotPut(t, []int{0x61, c, 0x10000}, 2, 1, api.ErrNot)
		mustNotPut(t, []int{0x61, 0x10000, c}, 4, 2, api.ErrNot)
	}
}

// P14.1: two bytes that are a surrogate, also two of them that are a pair.
func TestSurrogatesInTwoBytes(t *testing.T) {
	for c := 0xD800; c <= 0xDFFF; c++ {
		b := []byte{byte(c >> 8), byte(c)}
		mustNotGet(t, b, 2, 0, api.ErrRepertoire)
		mustNotGet(t, slices.Concat([]byte{0x00, 0x41, 0xFF, 0xFF}, b, []byte{0x00, 0x41}), 2, 4, api.ErrRepertoire)
		mustNotGet(t, slices.Concat([]byte{0xE0, 0x00}, b, b), 2, 2, api.ErrRepertoire)
	}
	mustNotGet(t, []byte{0x00, 0x41, 0xD8, 0x3D, 0xDE, 0x00}, 2, 2, api.ErrRepertoire)
	mustNotGet(t, []byte{0x00, 0x41, 0xDE, 0x00, 0xD8, 0x3D}, 2, 2, api.ErrRepertoire)
	// The bytes of a surrogate that are not one character are none.
	mustGet(t, []byte{0x00, 0xD8, 0x00, 0xDC, 0x00, 0x41}, 2, 0xD8, 0xDC, 0x41)
	mustGet(t, []byte{0x41, 0xDF, 0xFF, 0x41}, 2, 0x41DF, 0xFF41)
}

// P14.1, R5: four bytes that are no scalar: surrogates, numbers above MaxScalar, numbers with the highest bit set.
func TestNumbersOfFourBytesThatAreNoScalars(t *testing.T) {
	ahead := []byte{0, 0, 0, 0x41, 0, 0x10, 0xFF, 0xFF}
	for _, b := range [][]byte{
		{0x00, 0x00, 0xD8, 0x00}, {0x00, 0x00, 0xD8, 0x01}, {0x00, 0x00, 0xDB, 0xFF}, {0x00, 0x00, 0xDC, 0x00}, {0x00, 0x00, 0xDF, 0xFE}, {0x00, 0x00, 0xDF, 0xFF},
		{0x00, 0x11, 0x00, 0x00}, {0x00, 0x11, 0x00, 0x01}, {0x00, 0x1F, 0xFF, 0xFF}, {0x00, 0x20, 0x00, 0x41}, {0x00, 0xFF, 0xFF, 0xFF},
		{0x01, 0x00, 0x00, 0x00}, {0x01, 0x00, 0x00, 0x41}, {0x10, 0x00, 0x00, 0x41}, {0x41, 0x00, 0x00, 0x00}, {0x7F, 0xFF, 0xFF, 0xFF},
		{0x80, 0x00, 0x00, 0x00}, {0x80, 0x00, 0x00, 0x41}, {0x80, 0x10, 0xFF, 0xFF}, {0xFF, 0x00, 0x00, 0x41}, {0xFF, 0xFF, 0x00, 0x41}, {0xFF, 0xFF, 0xFF, 0x41}, {0xFF, 0xFF, 0xFF, 0xFE}, {0xFF, 0xFF, 0xFF, 0xFF},
	} {
		mustNotGet(t, b, 4, 0, api.ErrRepertoire)
		mustNotGet(t, append(bytes.Clone(b), 0, 0, 0, 0x41), 4, 0, api.ErrRepertoire)
		mustNotGet(t, slices.Concat(ahead[:4], b), 4, 4, api.ErrRepertoire)
		mustNotGet(t, slices.Concat(ahead, b, ahead), 4, 8, api.ErrRepertoire)
	}
}

// P14.1: of several characters at fault, the first one is told.
func TestFirstOfSeveralCharacters(t *testing.T) {
	mustNotGet(t, []byte{0x00, 0x41, 0xDF, 0xFF, 0x00, 0x41, 0xD8, 0x00}, 2, 2, api.ErrRepertoire)
	mustNotGet(t, []byte{0x00, 0x41, 0xD8, 0x00, 0x00, 0x41, 0xDF, 0xFF}, 2, 2, api.ErrRepertoire)
	mustNotGet(t, []byte{0, 0, 0, 0x41, 0xFF, 0xFF, 0xFF, 0xFF, 0, 0, 0xD8, 0}, 4, 4, api.ErrRepertoire)
	mustNotGet(t, []byte{0, 0, 0, 0x41, 0, 0, 0xD8, 0, 0xFF, 0xFF, 0xFF, 0xFF}, 4, 4, api.ErrRepertoire)
	mustNotGet(t, append(make([]byte, 1000), 0xDF, 0xFF, 0, 0x41, 0xD8, 0), 2, 1000, api.ErrRepertoire)
}

// P14.1: a length that is no multiple of the size, with the offset of the incomplete character, ahead of any other fault.
func TestIncompleteCharacters(t *testing.T) {
	for count := range 40 {
		for _, size := range []int{2, 4} {
			if count%size == 0 {
				mustGet(t, make([]byte, count), size, make([]int, count/size)...)
				continue
			}
			at := count / size * size
			mustNotGet(t, make([]byte, count), size, at, api.ErrBytes)
			mustNotGet(t, bytes.Repeat([]byte{0x00, 0x00, 0x41, 0x42}, 10)[:count], size, at, api.ErrBytes)
			mustNotGet(t, bytes.Repeat([]byte{0xD8}, count), size, at, api.ErrBytes)
			mustNotGet(t, bytes.Repeat([]byte{0xFF}, count), size, at, api.ErrBytes)
		}
	}
	mustNotGet(t, []byte{0x41}, 2, 0, api.ErrBytes)
	mustNotGet(t, []byte{0xD8, 0x00, 0x00}, 2, 2, api.ErrBytes)
	mustNotGet(t, []byte{0x00, 0x41, 0xD8}, 2, 2, api.ErrBytes)
	mustNotGet(t, []byte{0x00, 0x41}, 4, 0, api.ErrBytes)
	mustNotGet(t, []byte{0x00, 0x11, 0x00, 0x00, 0x00, 0x00}, 4, 4, api.ErrBytes)
	mustNotGet(t, []byte{0x80, 0x00, 0x00, 0x00, 0x00, 0x11, 0x00}, 4, 4, api.ErrBytes)
}

// R2, R6: what stands behind the length is not read, though it would complete a character or be at fault.
func TestMemoryBehindTheLength(t *testing.T) {
	b := []byte{0x00, 0x41, 0x00, 0x42, 0xD8, 0x00, 0x00, 0x43}
	mustGet(t, b[:4], 2, 0x41, 0x42)
	mustNotGet(t, b[:3], 2, 2, api.ErrBytes)
	mustNotGet(t, b[:1], 2, 0, api.ErrBytes)
	mustGet(t, b[:0], 2)
	b = []byte{0, 0, 0, 0x41, 0, 1, 0xF6, 0, 0xFF, 0xFF, 0xFF, 0xFF}
	mustGet(t, b[:8], 4, 0x41, 0x1F600)
	for count := 5; count < 8; count++ {
		mustNotGet(t, b[:count], 4, 4, api.ErrBytes)
	}
	mustPut(t, []int{0x41, 0xE9, -1, 0x42}[:2], 2, 0x00, 0x41, 0x00, 0xE9)
	mustPut(t, []int{0x41, 0x1F600, 0xD800}[:2], 4, 0, 0, 0, 0x41, 0, 1, 0xF6, 0)
	mustPut(t, []int{-1}[:0], 4)
}

// fill sets every item of l, its spare capacity too.
func fill[T any](l []T, x T) {
	full := l[:cap(l)]
	for i := range full {
		full[i] = x
	}
}

// lists are lists of scalars of many lengths, all of which have room in two bytes.
func lists() [][]int {
	return [][]int{nil, {}, {0}, {0x41}, {0xE9}, {0x20AC}, {0xFFFF}, {0x41, 0x42, 0x43}, {0x61, 0xE9, 0x20AC, 0xD7FF, 0xE000}, slices.Repeat([]int{0x41, 0xE9, 0x20AC}, 100)}
}

// R2: a result of Put that is changed afterwards, its spare capacity too, changes no other one, and the argument stays.
func TestResultsOfPutAreNewMemory(t *testing.T) {
	for i, s := range append(lists(), lists()...) {
		size := 2 + i%2*2
		whole := append(slices.Clone(s), 0x5A, 0x20AC, -1)
		kept := slices.Clone(whole)
		first, _, _ := wide.Put(whole[:len(s)], size)
		second, _, _ := wide.Put(whole[:len(s)], size)
		want := bytes.Clone(first)
		fill(first, 0x58)
		if !bytes.Equal(second, want) || !slices.Equal(whole, kept) {
			t.Errorf("Put(%#x, %d): results share memory, or the argument is now %#x", s, size, whole)
		}
		fill(whole, 0x58)
		if !bytes.Equal(second, want) {
			t.Errorf("Put(%#x, %d) has changed with its argument", s, size)
		}
		mustPut(t, s, size, want...)
	}
}

// R2: a result of Get that is changed afterwards, its spare capacity too, changes no other one, and the argument stays.
func TestResultsOfGetAreNewMemory(t *testing.T) {
	for i, s := range append(lists(), lists()...) {
		size := 2 + i%2*2
		b, _, _ := wide.Put(s, size)
		whole := append(bytes.Clone(b), 0x5A, 0xC3, 0xA9)
		kept := bytes.Clone(whole)
		first, _, _ := wide.Get(whole[:len(b)], size)
		second, _, _ := wide.Get(whole[:len(b)], size)
		fill(first, -1)
		if !slices.Equal(second, s) || !bytes.Equal(whole, kept) {
			t.Errorf("Get(% X, %d): results share memory, or the argument is now % X", b, size, whole)
		}
		fill(whole, 0xFF)
		if !slices.Equal(second, s) {
			t.Errorf("Get(% X, %d) has changed with its argument", b, size)
		}
		mustGet(t, b, size, s...)
	}
}

// R2, R4: arguments that are rejected stay as they are too.
func TestRejectedArgumentsStay(t *testing.T) {
	s := []int{0x41, 0x20AC, 0x10000, 0xD800, -1, 0x42}
	kept := slices.Clone(s)
	mustNotPut(t, s[:5], 2, 2, api.ErrNot)
	mustNotPut(t, s[:5], 4, 3, api.ErrNot)
	mustNotPut(t, s[:5], 3, 0, api.ErrArg)
	if !slices.Equal(s, kept) {
		t.Errorf("Put changed %#x into %#x", kept, s)
	}
	b := []byte{0x00, 0x00, 0x00, 0x41, 0xD8, 0x00, 0x00, 0x00, 0x42, 0xFF}
	before := bytes.Clone(b)
	mustNotGet(t, b[:8], 2, 4, api.ErrRepertoire)
	mustNotGet(t, b[:8], 4, 4, api.ErrRepertoire)
	mustNotGet(t, b[:9], 2, 8, api.ErrBytes)
	mustNotGet(t, b[:9], 1, 0, api.ErrArg)
	if !bytes.Equal(b, before) {
		t.Errorf("Get changed % X into % X", before, b)
	}
}

// R3: calls in turn and from several goroutines at once do not disturb each other.
func TestCallsAtOnce(t *testing.T) {
	var group sync.WaitGroup
	for range 8 {
		group.Go(func() {
			for range 200 {
				mustPut(t, []int{0x41, 0x20AC}, 2, 0x00, 0x41, 0x20, 0xAC)
				mustPut(t, []int{0x1F600}, 4, 0, 1, 0xF6, 0)
				mustNotPut(t, []int{0x41, 0x1F600}, 2, 1, api.ErrNot)
				mustNotPut(t, []int{0x41}, 3, 0, api.ErrArg)
				mustGet(t, []byte{0x00, 0x41, 0x20, 0xAC}, 2, 0x41, 0x20AC)
				mustGet(t, []byte{0, 1, 0xF6, 0}, 4, 0x1F600)
				mustNotGet(t, []byte{0x00, 0x41, 0xD8, 0x00}, 2, 2, api.ErrRepertoire)
				mustNotGet(t, []byte{0x00, 0x41, 0xD8}, 2, 2, api.ErrBytes)
			}
		})
	}
	group.Wait()
}
