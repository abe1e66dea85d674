package tlv_test

import (
	"bytes"
	"testing"

	"sobriquet/api"
	"sobriquet/tlv"
)

// P1.2: what Bytes was given comes back, for headers around each border of each field.
func TestReadReturnsWhatBytesWasGiven(t *testing.T) {
	for class := range 4 {
		for _, tag := range around(api.MaxTag, 7) {
			for _, length := range around(api.MaxLen, 8) {
				for _, cons := range []bool{false, true} {
					mustReturn(t, api.Head{Class: class, Tag: tag, Cons: cons, Len: length})
				}
			}
		}
	}
}

// around lists small numbers, those beside the powers of two of the step, and those up to the greatest one.
func around(greatest, step int) []int {
	l := []int{0, 1, 2, 15, 16, 17, 29, 30, 31, 32, 33, 126, greatest - 1, greatest}
	for shift := step; 1<<shift <= greatest; shift += step {
		l = append(l, 1<<shift-1, 1<<shift, 1<<shift+1)
	}
	for shift := 7; 1<<shift <= greatest; shift++ {
		l = append(l, 1<<shift-1, 1<<shift)
	}
	return l
}

func mustReturn(t *testing.T, h api.Head) {
	t.Helper()
	b, e := tlv.Bytes(h)
	if e != api.OK {
		t.Fatalf("Bytes(%+v): error %d", h, e)
	}
	h.Size = len(b)
	if got, e := tlv.Read(b); got != h || e != api.OK {
		t.Fatalf("Read(% X) = %+v, %d; want %+v", b, got, e, h)
	}
}

// P1.2: of many byte strings, Read accepts only those that Bytes makes, so that no header has two encodings.
func TestEachHeaderHasOneEncoding(t *testing.T) {
	alphabet := []byte{0x00, 0x01, 0x1E, 0x1F, 0x30, 0x7F, 0x80, 0x81, 0x82, 0x83, 0x84, 0x85, 0xBF, 0xFF}
	for length := range 6 {
		eachString(alphabet, make([]byte, 0, length), func(b []byte) {
			mustBeTheOne(t, b)
		})
	}
	for first := range 256 {
		for second := range 256 {
			for _, third := range alphabet {
				mustBeTheOne(t, []byte{byte(first), byte(second), third})
			}
		}
	}
	for _, first := range alphabet {
		for rest := range 1 << 16 {
			mustBeTheOne(t, []byte{first, byte(rest >> 8), byte(rest)})
		}
	}
}

// eachString calls f with every string of bytes of the alphabet that begins with b and fills its capacity.
func eachString(alphabet, b []byte, f func([]byte)) {
	if len(b) == cap(b) {
		f(b)
		return
	}
	for _, x := range alphabet {
		eachString(alphabet, append(b, x), f)
	}
}

func mustBeTheOne(t *testing.T, b []byte) {
	t.Helper()
	h, e := tlv.Read(b)
	if e != api.OK {
		if h != (api.Head{}) {
			t.Fatalf("Read(% X) = %+v beside error %d", b, h, e)
		}
		return
	}
	if h.Size < 2 || h.Size > len(b) {
		t.Fatalf("Read(% X) = %+v: not a size", b, h)
	}
	if enc, e := tlv.Bytes(h); !bytes.Equal(enc, b[:h.Size]) || e != api.OK {
		t.Fatalf("Read(% X) = %+v, whose encoding is % X, error %d", b, h, enc, e)
	}
}

// P1.2: longer encodings of the same tags and lengths are rejected.
func TestLongerEncodingsAreRejected(t *testing.T) {
	for _, c := range []struct {
		b []byte
		e api.Errno
	}{
		{[]byte{0x1F, 0x10, 0x00}, api.ErrTag},
		{[]byte{0x1F, 0x80, 0x1F, 0x00}, api.ErrTag},
		{[]byte{0x1F, 0x80, 0x81, 0x00, 0x00}, api.ErrTag},
		{[]byte{0x04, 0x81, 0x05}, api.ErrLength},
		{[]byte{0x04, 0x82, 0x00, 0x80}, api.ErrLength},
		{[]byte{0x04, 0x83, 0x00, 0x01, 0x00}, api.ErrLength},
		{[]byte{0x04, 0x84, 0x00, 0x01, 0x00, 0x00}, api.ErrLength},
		{[]byte{0x04, 0x85, 0x00, 0x01, 0x00, 0x00, 0x00}, api.ErrLength},
	} {
		if h, e := tlv.Read(c.b); h != (api.Head{}) || e != c.e {
			t.Errorf("Read(% X) = %+v, %d; want error %d", c.b, h, e, c.e)
		}
	}
}

// held is an argument with spare capacity, beside what both held at first.
type held struct {
	arg  []byte
	from []byte
}

func hold(b []byte) held {
	full := append(bytes.Clone(b), 0xC1, 0xC2, 0xC3, 0xC4)
	return held{full[:len(b):len(full)], bytes.Clone(full)}
}

func (x held) mustStay(t *testing.T) {
	t.Helper()
	if now := x.arg[:cap(x.arg)]; !bytes.Equal(now, x.from) {
		t.Errorf("the argument % X has become % X", x.from, now)
	}
}

// spoil writes over a result and over its spare capacity.
func spoil(b []byte) {
	full := b[:cap(b)]
	for i := range full {
		full[i] = 0xEE
	}
}

// R2: no result shares memory with an argument or with another result.
func TestOneReturnsNewMemory(t *testing.T) {
	value, after := []byte{0x04, 0x03, 0x07, 0x08, 0x09}, []byte{0x05, 0x00, 0x01}
	x := hold(append(bytes.Clone(value), after...))
	_, content, rest, _ := tlv.One(x.arg)
	x.mustStay(t)
	spoil(content)
	x.mustStay(t)
	if !bytes.Equal(rest, after) {
		t.Errorf("the rest shares the content's memory: % X", rest)
	}
	_, content, rest, _ = tlv.One(x.arg)
	spoil(rest)
	x.mustStay(t)
	if !bytes.Equal(content, value[2:]) {
		t.Errorf("the content shares the rest's memory: % X", content)
	}
}

// R2: the same for an empty content and an empty rest, which may have capacity.
func TestOneReturnsNewMemoryWhereNothingIs(t *testing.T) {
	x := hold([]byte{0x05, 0x00})
	_, content, rest, e := tlv.One(x.arg)
	if e != api.OK {
		t.Fatalf("One: error %d", e)
	}
	spoil(content)
	spoil(rest)
	x.mustStay(t)
}

// R2: Wrap and Read leave the argument alone, and what Wrap returns is its own.
func TestWrapReturnsNewMemory(t *testing.T) {
	x := hold([]byte{0x01, 0x02, 0x03})
	b, e := tlv.Wrap(api.Head{Tag: 4}, x.arg)
	if e != api.OK {
		t.Fatalf("Wrap: error %d", e)
	}
	x.mustStay(t)
	spoil(b)
	x.mustStay(t)
	y := hold([]byte{0x30, 0x00})
	tlv.Read(y.arg)
	y.mustStay(t)
}

// R3: what Bytes returned before is not used again.
func TestBytesReturnsNewMemory(t *testing.T) {
	h := api.Head{Tag: 1 << 20, Len: 1 << 20}
	first, _ := tlv.Bytes(h)
	want := bytes.Clone(first)
	spoil(first)
	if second, e := tlv.Bytes(h); !bytes.Equal(second, want) || e != api.OK {
		t.Errorf("Bytes(%+v) = % X, %d; want % X", h, second, e, want)
	}
}
