package wide_test

import (
	"bytes"
	"encoding/binary"
	"slices"
	"testing"

	"sobriquet/api"
	"sobriquet/wide"
)

// isScalar is the document's word for a number that is a scalar.
func isScalar(c int) bool {
	return 0 <= c && c < 0xD800 || 0xDFFF < c && c <= api.MaxScalar
}

// inSize returns the bytes of the numbers of s as the library has them.
func inSize(s []int, size int) []byte {
	var b []byte
	for _, c := range s {
		if size == 2 {
			b = binary.BigEndian.AppendUint16(b, uint16(c))
		} else {
			b = binary.BigEndian.AppendUint32(b, uint32(c))
		}
	}
	return b
}

// numbersOf returns the numbers of b, a multiple of size bytes, as the library has them.
func numbersOf(b []byte, size int) []int {
	var s []int
	for character := range slices.Chunk(b, size) {
		if size == 2 {
			s = append(s, int(binary.BigEndian.Uint16(character)))
		} else {
			s = append(s, int(binary.BigEndian.Uint32(character)))
		}
	}
	return s
}

// mustDecode checks Get of b against the chapter's words, and that Put returns what Get was given.
func mustDecode(t *testing.T, b []byte, size int) {
	t.Helper()
	var want []int
	offset, fault := 0, api.Errno(api.OK)
	if len(b)%size != 0 {
		offset, fault = len(b)/size*size, api.ErrBytes
	} else {
		want = numbersOf(b, size)
		if i := slices.IndexFunc(want, func(c int) bool { return !isScalar(c) }); i >= 0 {
			want, offset, fault = nil, i*size, api.ErrRepertoire
		}
	}
	s, at, e := wide.Get(b, size)
	if !slices.Equal(s, want) || at != offset || e != fault {
		t.Fatalf("Get(% X, %d) = %#x, %d, %d; want %#x, %d, %d", b, size, s, at, e, want, offset, fault)
	}
	if e != api.OK {
		return
	}
	if got, at, e := wide.Put(s, size); !bytes.Equal(got, b) || at != 0 || e != api.OK {
		t.Fatalf("Put(Get(% X, %d)) = % X, %d, %d", b, size, got, at, e)
	}
}

// mustCode checks Put of s against the chapter's words, and that Get returns what Put was given.
func mustCode(t *testing.T, s []int, size int) {
	t.Helper()
	var want []byte
	index, fault := slices.IndexFunc(s, func(c int) bool { return !isScalar(c) || size == 2 && c >= 0x10000 }), api.Errno(api.ErrNot)
	if index < 0 {
		want, index, fault = inSize(s, size), 0, api.OK
	}
	b, at, e := wide.Put(s, size)
	if !bytes.Equal(b, want) || at != index || e != fault {
		t.Fatalf("Put(%#x, %d) = % X, %d, %d; want % X, %d, %d", s, size, b, at, e, want, index, fault)
	}
	if e != api.OK {
		return
	}
	if got, at, e := wide.Get(b, size); !slices.Equal(got, s) || at != 0 || e != api.OK {
		t.Fatalf("Get(Put(%#x, %d)) = %#x, %d, %d", s, size, got, at, e)
	}
}

// P14.1, P14.2: every number up to some above MaxScalar, and some below 0, alone, in both sizes.
func TestEveryNumber(t *testing.T) {
	for c := -0x300; c <= api.MaxScalar+0x300; c++ {
		mustCode(t, []int{c}, 2)
		mustCode(t, []int{c}, 4)
	}
}

// P14.1, P14.2: all strings of two bytes, and those of four bytes whose bytes are at the ends of what a scalar may have.
func TestEveryCharacter(t *testing.T) {
	for i := range 1 << 16 {
		mustDecode(t, []byte{byte(i >> 8), byte(i)}, 2)
	}
	ends := []byte{0x00, 0x01, 0x0F, 0x10, 0x11, 0x1F, 0x20, 0x41, 0x7F, 0x80, 0x81, 0xD7, 0xD8, 0xDB, 0xDC, 0xDF, 0xE0, 0xFE, 0xFF}
	b := make([]byte, 4)
	for _, b[0] = range ends {
		for _, b[1] = range ends {
			for _, b[2] = range ends {
				for _, b[3] = range ends {
					mustDecode(t, b, 4)
					mustDecode(t, b, 2)
				}
			}
		}
	}
}

// P14.1: four bytes with each first and each second byte.
func TestFirstBytesOfFour(t *testing.T) {
	for i := range 1 << 16 {
		mustDecode(t, []byte{byte(i >> 8), byte(i), 0x00, 0x41}, 4)
		mustDecode(t, []byte{byte(i >> 8), byte(i), 0xFF, 0xFF}, 4)
	}
}

// everyScalar returns all scalars below the given number, in their order.
func everyScalar(below int) []int {
	var l []int
	for c := range below {
		if isScalar(c) {
			l = append(l, c)
		}
	}
	return l
}

// P14.1, P14.2: every scalar in one list, and the list back.
func TestAllScalarsInOneList(t *testing.T) {
	mustCode(t, everyScalar(0x10000), 2)
	mustCode(t, everyScalar(api.MaxScalar+1), 4)
}

// eachList calls f with every list of items of the alphabet that begins with l and fills its capacity.
func eachList[T any](alphabet, l []T, f func([]T)) {
	if len(l) == cap(l) {
		f(l)
		return
	}
	for _, x := range alphabet {
		eachList(alphabet, append(l, x), f)
	}
}

// P14.1, P14.2: Put of all short lists of some numbers.
func TestPutOfManyLists(t *testing.T) {
	alphabet := []int{-1, 0, 0x41, 0xD7FF, 0xD800, 0xDFFF, 0xE000, 0xFFFF, 0x10000, api.MaxScalar, api.MaxScalar + 1, 1<<32 + 0x41}
	for length := range 5 {
		eachList(alphabet, make([]int, 0, length), func(s []int) {
			mustCode(t, s, 2)
			mustCode(t, s, 4)
		})
	}
}

// P14.1, P14.2: Get of all short strings of some bytes.
func TestGetOfManyStrings(t *testing.T) {
	alphabet := []byte{0x00, 0x10, 0x11, 0xD8, 0xFF}
	for length := range 9 {
		eachList(alphabet, make([]byte, 0, length), func(b []byte) {
			mustDecode(t, b, 2)
			mustDecode(t, b, 4)
		})
	}
}

// numbers returns a function that returns numbers below the given one in no order, the same ones each time.
func numbers() func(below int) int {
	state := uint64(1)
	return func(below int) int {
		state = state*6364136223846793005 + 1442695040888963407
		return int(state>>33) % below
	}
}

// mixed returns count scalars in no order that have room in size bytes.
func mixed(count, size int) []int {
	next := numbers()
	ends := []int{0x80, 0x800, 0xD800, 0x10000 - 0x800}
	if size == 4 {
		ends = append(ends, api.MaxScalar+1-0x800)
	}
	l := make([]int, count)
	for i := range l {
		l[i] = next(ends[next(len(ends))])
		if l[i] >= 0xD800 {
			l[i] += 0x800
		}
	}
	return l
}

// P14.2: Get returns what Put was given, and Put what Get was given, for lists of many lengths.
func TestMixedLists(t *testing.T) {
	for _, size := range []int{2, 4} {
		s := mixed(20000, size)
		for from, count := 0, 0; from+count <= len(s); from, count = from+count, (count+7)%300 {
			l := s[from : from+count]
			mustCode(t, l, size)
			mustDecode(t, inSize(l, size), size)
		}
	}
}

// P14.1, P14.2: encodings with some bytes changed, dropped or doubled, and lists with some numbers changed.
func TestSpoiledEncodings(t *testing.T) {
	next := numbers()
	for _, size := range []int{2, 4} {
		for l := range slices.Chunk(mixed(60000, size), 6) {
			b := inSize(l, size)
			at := next(len(b))
			switch next(3) {
			case 0:
				b[at] = byte(next(256))
			case 1:
				b = slices.Delete(b, at, at+1)
			default:
				b = slices.Insert(b, at, b[at])
			}
			mustDecode(t, b, size)
			l[at/size] ^= 1 << next(24)
			mustCode(t, l, size)
		}
	}
}

// P14.1, R1: long lists, right to the end and with a fault there.
func TestLongLists(t *testing.T) {
	for _, size := range []int{2, 4} {
		s := mixed(1<<20, size)
		b := inSize(s, size)
		if got, at, e := wide.Put(s, size); !bytes.Equal(got, b) || at != 0 || e != api.OK {
			t.Errorf("Put of %d scalars has %d bytes, %d, %d; want %d bytes", len(s), len(got), at, e, len(b))
		}
		if got, at, e := wide.Get(b, size); !slices.Equal(got, s) || at != 0 || e != api.OK {
			t.Errorf("Get of %d bytes has %d scalars, %d, %d; want %d scalars", len(b), len(got), at, e, len(s))
		}
		if got, at, e := wide.Put(append(s, 0xD800), size); len(got) != 0 || at != len(s) || e != api.ErrNot {
			t.Errorf("Put has %d bytes, %d, %d; want %d and ErrNot", len(got), at, e, len(s))
		}
		if got, at, e := wide.Get(append(b, 0x00), size); len(got) != 0 || at != len(b) || e != api.ErrBytes {
			t.Errorf("Get has %d scalars, %d, %d; want %d and ErrBytes", len(got), at, e, len(b))
		}
		fault := append(make([]byte, size-2), 0xDF, 0xFF)
		if got, at, e := wide.Get(append(b, fault...), size); len(got) != 0 || at != len(b) || e != api.ErrRepertoire {
			t.Errorf("Get has %d scalars, %d, %d; want %d and ErrRepertoire", len(got), at, e, len(b))
		}
	}
}
