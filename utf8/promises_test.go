package utf8_test

import (
	"bytes"
	"slices"
	"testing"
	library "unicode/utf8"

	"sobriquet/api"
	"sobriquet/utf8"
)

// everyScalar returns all scalars in their order.
func everyScalar() []int {
	var l []int
	for c := 0; c < 0xD800; c++ {
		l = append(l, c)
	}
	for c := 0xE000; c <= api.MaxScalar; c++ {
		l = append(l, c)
	}
	return l
}

// inBytes returns c in the given number of bytes, few enough or not, in the way of the chapter.
func inBytes(c, count int) []byte {
	if count == 1 {
		return []byte{byte(c)}
	}
	b := make([]byte, count)
	for i := count - 1; i > 0; i-- {
		b[i] = byte(0x80 + c%0x40)
		c /= 0x40
	}
	b[0] = byte(0x100 - 0x100>>count + c)
	return b
}

// fewest returns the number of bytes that the chapter gives the encoding of c.
func fewest(c int) int {
	for i, end := range []int{0x80, 0x800, 0x10000} {
		if c < end {
			return i + 1
		}
	}
	return 4
}

// P13.1: every scalar, alone, by all three calls, after the chapter's words and as the library has it.
func TestEveryScalar(t *testing.T) {
	for _, c := range everyScalar() {
		want := inBytes(c, fewest(c))
		if !bytes.Equal(want, library.AppendRune(nil, rune(c))) {
			t.Fatalf("the library encodes %#x in another way than % X", c, want)
		}
		b, at, e := utf8.Put([]int{c})
		if !bytes.Equal(b, want) || at != 0 || e != api.OK {
			t.Fatalf("Put(%#x) = % X, %d, %d; want % X", c, b, at, e, want)
		}
		s, at, e := utf8.Get(want)
		if len(s) != 1 || s[0] != c || at != 0 || e != api.OK {
			t.Fatalf("Get(% X) = %#x, %d, %d; want %#x", want, s, at, e, c)
		}
		if got, n := utf8.One(append(want, 0x80)); got != c || n != len(want) {
			t.Fatalf("One(% X) = %#x, %d; want %#x", want, got, n, c)
		}
	}
}

// P13.1, P13.2: every scalar in one list, and the list back.
func TestAllScalarsInOneList(t *testing.T) {
	s := everyScalar()
	b, _, e := utf8.Put(s)
	if want := []byte(text(s)); !bytes.Equal(b, want) || e != api.OK {
		t.Fatalf("Put of every scalar has %d bytes and error %d; want %d bytes", len(b), e, len(want))
	}
	if got, _, e := utf8.Get(b); !slices.Equal(got, s) || e != api.OK {
		t.Fatalf("Get returns %d scalars and error %d; want %d", len(got), e, len(s))
	}
}

// text returns the text of the scalars of s, by the language.
func text(s []int) string {
	l := make([]rune, len(s))
	for i, c := range s {
		l[i] = rune(c)
	}
	return string(l)
}

// mustFindNone checks that no encoding begins with b, and that Get tells where it stands.
func mustFindNone(t *testing.T, b []byte) {
	t.Helper()
	if c, n := utf8.One(b); c != 0 || n != 0 {
		t.Fatalf("One(% X) = %#x, %d", b, c, n)
	}
	if s, at, e := utf8.Get(append([]byte{0xC3, 0xA9, 0x41}, b...)); len(s) != 0 || at != 3 || e != api.ErrBytes {
		t.Fatalf("Get(C3 A9 41 % X) = %#x, %d, %d", b, s, at, e)
	}
}

// P13.1: every encoding of a scalar in more bytes than it has is none.
func TestEveryOverlongEncoding(t *testing.T) {
	for c := range 0x10000 {
		for count := fewest(c) + 1; count <= 6; count++ {
			mustFindNone(t, inBytes(c, count))
		}
	}
	for c := 0x10000; c <= api.MaxScalar; c += 97 {
		mustFindNone(t, inBytes(c, 5))
		mustFindNone(t, inBytes(c, 6))
	}
}

// P13.1: every surrogate and every number above MaxScalar that four bytes have room for is rejected.
func TestEveryEncodingOfNoScalar(t *testing.T) {
	for c := 0xD800; c <= 0xDFFF; c++ {
		mustFindNone(t, inBytes(c, 3))
	}
	for c := api.MaxScalar + 1; c < 0x200000; c++ {
		mustFindNone(t, inBytes(c, 4))
	}
	for c := 0x200000; c < 0x4000000; c += 99991 {
		mustFindNone(t, inBytes(c, 5))
	}
}

// mustAgree checks that One finds at the beginning of b what the library finds there.
func mustAgree(t *testing.T, b []byte) {
	t.Helper()
	r, size := library.DecodeRune(b)
	want := int(r)
	if r == library.RuneError && size < 3 {
		want, size = 0, 0
	}
	if c, n := utf8.One(b); c != want || n != size {
		t.Fatalf("One(% X) = %#x, %d; want %#x, %d", b, c, n, want, size)
	}
}

// P13.1: One of all strings of up to three bytes, and of those of four bytes of which the last two are at the ends.
func TestOneOfManyStrings(t *testing.T) {
	mustAgree(t, nil)
	ends := []byte{0x00, 0x41, 0x7F, 0x80, 0xBF, 0xC0, 0xFF}
	for first := range 256 {
		mustAgree(t, []byte{byte(first)})
		for second := range 256 {
			b := []byte{byte(first), byte(second), 0, 0}
			mustAgree(t, b[:2])
			for third := range 256 {
				b[2] = byte(third)
				mustAgree(t, b[:3])
			}
			for _, b[2] = range ends {
				for _, b[3] = range ends {
					mustAgree(t, b)
				}
			}
		}
	}
}

// eachString calls f with every string of bytes of the alphabet that begins with b and fills its capacity.
func eachString(alphabet, b []byte, f func([]byte)) {
	if len(b) == cap(b) {
		f(b)
		return
	}
	for _, x := range alphabet {
		eachString(alphabet, append(b, x), f)
	}
}

// decoded returns the scalars of b, or the offset of the first byte at which the library finds no encoding.
func decoded(b []byte) (s []int, at int, ok bool) {
	for at < len(b) {
		r, size := library.DecodeRune(b[at:])
		if r == library.RuneError && size < 3 {
			return nil, at, false
		}
		s = append(s, int(r))
		at += size
	}
	return s, 0, true
}

// mustDecode checks Get of b against the library, and that Put returns what Get was given.
func mustDecode(t *testing.T, b []byte) {
	t.Helper()
	want, offset, ok := decoded(b)
	s, at, e := utf8.Get(b)
	if !slices.Equal(s, want) || at != offset || (e == api.OK) != ok || !ok && e != api.ErrBytes {
		t.Fatalf("Get(% X) = %#x, %d, %d; want %#x, %d", b, s, at, e, want, offset)
	}
	if !ok {
		return
	}
	if got, at, e := utf8.Put(s); !bytes.Equal(got, b) || at != 0 || e != api.OK {
		t.Fatalf("Put(Get(% X)) = % X, %d, %d", b, got, at, e)
	}
}

// P13.1, P13.2: Get of all short strings of some bytes, and Put of what it returns.
func TestGetOfManyStrings(t *testing.T) {
	alphabet := []byte{0x00, 0x7F, 0x80, 0x8F, 0x90, 0x9F, 0xA0, 0xBF, 0xC1, 0xC2, 0xE0, 0xED, 0xF0, 0xF4}
	for length := range 6 {
		eachString(alphabet, make([]byte, 0, length), func(b []byte) {
			mustDecode(t, b)
		})
	}
	for i := range 1 << 16 {
		mustDecode(t, []byte{byte(i >> 8), byte(i)})
	}
}

// numbers returns a function that returns numbers below the given one in no order, the same ones each time.
func numbers() func(below int) int {
	state := uint64(1)
	return func(below int) int {
		state = state*6364136223846793005 + 1442695040888963407
		return int(state>>33) % below
	}
}

// mixed returns count scalars of all lengths in no order.
func mixed(count int) []int {
	next := numbers()
	l := make([]int, count)
	for i := range l {
		l[i] = next([]int{0x80, 0x800, 0xD800, api.MaxScalar + 1}[next(4)])
		if l[i] >= 0xD800 && l[i] <= 0xDFFF {
			l[i] += 0x800
		}
	}
	return l
}

// P13.2: Get returns what Put was given, for lists of many lengths.
func TestGetReturnsWhatPutWasGiven(t *testing.T) {
	s := mixed(20000)
	for from, count := 0, 0; from+count <= len(s); from, count = from+count, (count+7)%300 {
		l := s[from : from+count]
		b, at, e := utf8.Put(l)
		if string(b) != text(l) || at != 0 || e != api.OK {
			t.Fatalf("Put(%#x) = % X, %d, %d", l, b, at, e)
		}
		mustGet(t, b, l...)
		mustDecode(t, b)
	}
}

// P13.1, P13.2: encodings with some bytes changed, dropped or doubled.
func TestSpoiledEncodings(t *testing.T) {
	next := numbers()
	for l := range slices.Chunk(mixed(60000), 6) {
		b := []byte(text(l))
		at := next(len(b))
		switch next(3) {
		case 0:
			b[at] = byte(next(256))
		case 1:
			b = slices.Delete(b, at, at+1)
		default:
			b = slices.Insert(b, at, b[at])
		}
		mustDecode(t, b)
	}
}

// P13.1, R1: long lists, right to the end and with a fault there.
func TestLongLists(t *testing.T) {
	s := mixed(1 << 20)
	b := []byte(text(s))
	if got, at, e := utf8.Put(s); !bytes.Equal(got, b) || at != 0 || e != api.OK {
		t.Errorf("Put of %d scalars has %d bytes, %d, %d; want %d bytes", len(s), len(got), at, e, len(b))
	}
	if got, at, e := utf8.Get(b); !slices.Equal(got, s) || at != 0 || e != api.OK {
		t.Errorf("Get of %d bytes has %d scalars, %d, %d; want %d scalars", len(b), len(got), at, e, len(s))
	}
	if got, at, e := utf8.Put(append(s, 0xD800)); len(got) != 0 || at != len(s) || e != api.ErrNot {
		t.Errorf("Put has %d bytes, %d, %d; want %d and ErrNot", len(got), at, e, len(s))
	}
	if got, at, e := utf8.Get(append(b, 0xE2, 0x82)); len(got) != 0 || at != len(b) || e != api.ErrBytes {
		t.Errorf("Get has %d scalars, %d, %d; want %d and ErrBytes", len(got), at, e, len(b))
	}
	mustOne(t, b[:4:4], s[0], len(string(rune(s[0]))))
	mustNotGet(t, bytes.Repeat([]byte{0xFF}, 1000), 0)
}
