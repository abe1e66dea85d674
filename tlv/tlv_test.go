package tlv_test

import (
	"bytes"
	"testing"

	"sobriquet/api"
	"sobriquet/tlv"
)

// pairs are headers beside their encodings, at both sides of each border.
func pairs() []struct {
	head api.Head
	enc  []byte
} {
	return []struct {
		head api.Head
		enc  []byte
	}{
		{api.Head{Size: 2}, []byte{0x00, 0x00}},
		{api.Head{Tag: 16, Cons: true, Len: 3, Size: 2}, []byte{0x30, 0x03}},
		{api.Head{Tag: 4, Len: 127, Size: 2}, []byte{0x04, 0x7F}},
		{api.Head{Tag: 4, Len: 128, Size: 3}, []byte{0x04, 0x81, 0x80}},
		{api.Head{Tag: 4, Len: 255, Size: 3}, []byte{0x04, 0x81, 0xFF}},
		{api.Head{Tag: 4, Len: 0x100, Size: 4}, []byte{0x04, 0x82, 0x01, 0x00}},
		{api.Head{Tag: 4, Len: 0xFFFF, Size: 4}, []byte{0x04, 0x82, 0xFF, 0xFF}},
		{api.Head{Tag: 4, Len: 0x10000, Size: 5}, []byte{0x04, 0x83, 0x01, 0x00, 0x00}},
		{api.Head{Tag: 4, Len: 0xFFFFFF, Size: 5}, []byte{0x04, 0x83, 0xFF, 0xFF, 0xFF}},
		{api.Head{Tag: 4, Len: 0x1000000, Size: 6}, []byte{0x04, 0x84, 0x01, 0x00, 0x00, 0x00}},
		{api.Head{Tag: 4, Len: 0x12345678, Size: 6}, []byte{0x04, 0x84, 0x12, 0x34, 0x56, 0x78}},
		{api.Head{Tag: 4, Len: api.MaxLen, Size: 6}, []byte{0x04, 0x84, 0x7F, 0xFF, 0xFF, 0xFF}},
		{api.Head{Class: 1, Tag: 1, Len: 5, Size: 2}, []byte{0x41, 0x05}},
		{api.Head{Class: 2, Cons: true, Size: 2}, []byte{0xA0, 0x00}},
		{api.Head{Class: 3, Tag: 30, Cons: true, Len: 1, Size: 2}, []byte{0xFE, 0x01}},
		{api.Head{Tag: 30, Size: 2}, []byte{0x1E, 0x00}},
		{api.Head{Tag: 31, Size: 3}, []byte{0x1F, 0x1F, 0x00}},
		{api.Head{Tag: 127, Size: 3}, []byte{0x1F, 0x7F, 0x00}},
		{api.Head{Tag: 128, Size: 4}, []byte{0x1F, 0x81, 0x00, 0x00}},
		{api.Head{Tag: 1<<14 - 1, Size: 4}, []byte{0x1F, 0xFF, 0x7F, 0x00}},
		{api.Head{Tag: 1 << 14, Size: 5}, []byte{0x1F, 0x81, 0x80, 0x00, 0x00}},
		{api.Head{Tag: 1<<21 - 1, Size: 5}, []byte{0x1F, 0xFF, 0xFF, 0x7F, 0x00}},
		{api.Head{Tag: 1 << 21, Size: 6}, []byte{0x1F, 0x81, 0x80, 0x80, 0x00, 0x00}},
		{api.Head{Tag: api.MaxTag, Size: 6}, []byte{0x1F, 0xFF, 0xFF, 0xFF, 0x7F, 0x00}},
		{api.Head{Class: 1, Tag: 201, Len: 200, Size: 5}, []byte{0x5F, 0x81, 0x49, 0x81, 0xC8}},
		{api.Head{Class: 3, Tag: api.MaxTag, Cons: true, Len: api.MaxLen, Size: 10}, []byte{0xFF, 0xFF, 0xFF, 0xFF, 0x7F, 0x84, 0x7F, 0xFF, 0xFF, 0xFF}},
	}
}

func TestReadReturnsTheHeader(t *testing.T) {
	for _, c := range pairs() {
		for _, after := range [][]byte{nil, {0x00}, {0xFF, 0x80, 0x1F}} {
			b := append(bytes.Clone(c.enc), after...)
			if h, e := tlv.Read(b); h != c.head || e != api.OK {
				t.Errorf("Read(% X) = %+v, %d; want %+v", b, h, e, c.head)
			}
		}
	}
}

func TestReadNeedsEveryByteOfTheHeader(t *testing.T) {
	for _, c := range pairs() {
		for i := range c.enc {
			// The spare capacity holds what is missing, and is not to be read.
			if h, e := tlv.Read(c.enc[:i]); h != (api.Head{}) || e != api.ErrShort {
				t.Errorf("Read(% X) = %+v, %d; want ErrShort", c.enc[:i], h, e)
			}
		}
	}
}

// faults are byte strings that end with the byte at fault.
func faults() []struct {
	b []byte
	e api.Errno
} {
	return []struct {
		b []byte
		e api.Errno
	}{
		{[]byte{0x1F, 0x80}, api.ErrTag},
		{[]byte{0xFF, 0x80}, api.ErrTag},
		{[]byte{0x1F, 0x00}, api.ErrTag},
		{[]byte{0x1F, 0x01}, api.ErrTag},
		{[]byte{0x3F, 0x1E}, api.ErrTag},
		{[]byte{0x1F, 0x81, 0x80, 0x80, 0x80, 0x00}, api.ErrTag},
		{[]byte{0x1F, 0x81, 0x80, 0x80, 0x80, 0x80}, api.ErrTag},
		{[]byte{0x1F, 0xFF, 0xFF, 0xFF, 0xFF, 0x7F}, api.ErrTag},
		{[]byte{0x1F, 0xFF, 0xFF, 0xFF, 0xFF, 0xFF}, api.ErrTag},
		{[]byte{0x30, 0x80}, api.ErrLength},
		{[]byte{0x30, 0x85}, api.ErrLength},
		{[]byte{0x30, 0x88}, api.ErrLength},
		{[]byte{0x30, 0xFF}, api.ErrLength},
		{[]byte{0x1F, 0x1F, 0x80}, api.ErrLength},
		{[]byte{0x30, 0x81, 0x00}, api.ErrLength},
		{[]byte{0x30, 0x82, 0x00}, api.ErrLength},
		{[]byte{0x30, 0x83, 0x00}, api.ErrLength},
		{[]byte{0x30, 0x84, 0x00}, api.ErrLength},
		{[]byte{0x30, 0x81, 0x01}, api.ErrLength},
		{[]byte{0x30, 0x81, 0x03}, api.ErrLength},
		{[]byte{0x30, 0x81, 0x7F}, api.ErrLength},
		{[]byte{0x30, 0x84, 0x80, 0x00, 0x00, 0x00}, api.ErrLength},
		{[]byte{0x30, 0x84, 0xFF, 0xFF, 0xFF, 0xFF}, api.ErrLength},
	}
}

func TestReadReturnsTheErrorOfTheFirstByteAtFault(t *testing.T) {
	for _, c := range faults() {
		last := len(c.b) - 1
		if h, e := tlv.Read(c.b[:last]); h != (api.Head{}) || e != api.ErrShort {
			t.Errorf("Read(% X) = %+v, %d; want ErrShort", c.b[:last], h, e)
		}
		for _, after := range [][]byte{nil, {0x80}, {0x00, 0x01, 0x02, 0x03, 0x04, 0x05}, {0xFF, 0xFF, 0xFF, 0xFF, 0xFF}} {
			b := append(bytes.Clone(c.b), after...)
			if h, e := tlv.Read(b); h != (api.Head{}) || e != c.e {
				t.Errorf("Read(% X) = %+v, %d; want error %d", b, h, e, c.e)
			}
		}
	}
	if h, e := tlv.Read(nil); h != (api.Head{}) || e != api.ErrShort {
		t.Errorf("Read(nil) = %+v, %d; want ErrShort", h, e)
	}
}

func TestBytesReturnsTheEncoding(t *testing.T) {
	for _, c := range pairs() {
		for _, size := range []int{0, 1, -7, 1 << 40, c.head.Size} {
			h := c.head
			h.Size = size
			if b, e := tlv.Bytes(h); !bytes.Equal(b, c.enc) || e != api.OK {
				t.Errorf("Bytes(%+v) = % X, %d; want % X", h, b, e, c.enc)
			}
		}
	}
}

// badIdentifiers are headers that no content makes valid.
func badIdentifiers() []api.Head {
	least, greatest := -1<<63, 1<<63-1
	return []api.Head{
		{Class: -1}, {Class: 4}, {Class: 256}, {Class: least}, {Class: greatest},
		{Tag: -1}, {Tag: api.MaxTag + 1}, {Tag: 1 << 32}, {Tag: least}, {Tag: greatest},
		{Class: 4, Tag: -1, Cons: true},
	}
}

func TestBytesRejectsInvalidHeaders(t *testing.T) {
	least, greatest := -1<<63, 1<<63-1
	bad := append(badIdentifiers(),
		api.Head{Len: -1}, api.Head{Len: api.MaxLen + 1}, api.Head{Len: 1 << 32}, api.Head{Len: least}, api.Head{Len: greatest})
	for _, h := range bad {
		if b, e := tlv.Bytes(h); len(b) != 0 || e != api.ErrArg {
			t.Errorf("Bytes(%+v) = % X, %d; want ErrArg", h, b, e)
		}
	}
}

func TestOneSplitsTheFirstValueOff(t *testing.T) {
	long := bytes.Repeat([]byte{0xAB}, 300)
	for _, c := range []struct {
		head          []byte
		want          api.Head
		content, rest []byte
	}{
		{[]byte{0x30, 0x03}, api.Head{Tag: 16, Cons: true, Len: 3, Size: 2}, []byte{0x02, 0x01, 0x05}, nil},
		{[]byte{0x30, 0x03}, api.Head{Tag: 16, Cons: true, Len: 3, Size: 2}, []byte{0x02, 0x01, 0x05}, []byte{0x30, 0x80}},
		{[]byte{0x05, 0x00}, api.Head{Tag: 5, Size: 2}, nil, nil},
		{[]byte{0x05, 0x00}, api.Head{Tag: 5, Size: 2}, nil, []byte{0x01}},
		{[]byte{0x9F, 0x1F, 0x82, 0x01, 0x2C}, api.Head{Class: 2, Tag: 31, Len: 300, Size: 5}, long, []byte{0x00, 0x00}},
	} {
		b := bytes.Join([][]byte{c.head, c.content, c.rest}, nil)
		h, content, rest, e := tlv.One(b)
		if h != c.want || !bytes.Equal(content, c.content) || !bytes.Equal(rest, c.rest) || e != api.OK {
			t.Errorf("One(% X) = %+v, % X, % X, %d", b, h, content, rest, e)
		}
	}
}

func TestOneNeedsTheWholeContent(t *testing.T) {
	whole := append([]byte{0x04, 0x81, 0x80}, make([]byte, 128)...)
	if _, _, _, e := tlv.One(whole); e != api.OK {
		t.Fatalf("One of the whole value: error %d", e)
	}
	for i := range whole {
		mustFailOne(t, whole[:i], api.ErrShort)
	}
	mustFailOne(t, []byte{0x04, 0x84, 0x7F, 0xFF, 0xFF, 0xFF, 0x00}, api.ErrShort)
}

func TestOneReturnsTheErrorOfRead(t *testing.T) {
	for _, c := range faults() {
		mustFailOne(t, c.b, c.e)
		mustFailOne(t, append(bytes.Clone(c.b), make([]byte, 300)...), c.e)
	}
}

func mustFailOne(t *testing.T, b []byte, want api.Errno) {
	t.Helper()
	h, content, rest, e := tlv.One(b)
	if h != (api.Head{}) || len(content) != 0 || len(rest) != 0 || e != want {
		t.Errorf("One(% X) = %+v, % X, % X, %d; want error %d", b, h, content, rest, e, want)
	}
}

func TestWrapPutsTheLengthOfTheContent(t *testing.T) {
	for _, c := range pairs() {
		if c.head.Len > 1<<17 {
			continue
		}
		content := bytes.Repeat([]byte{0x5A}, c.head.Len)
		for _, told := range []int{c.head.Len, 0, 99, -1, api.MaxLen + 1} {
			h := c.head
			h.Len, h.Size = told, -3
			b, e := tlv.Wrap(h, content)
			if !bytes.Equal(b, append(bytes.Clone(c.enc), content...)) || e != api.OK {
				t.Errorf("Wrap(%+v, %d bytes): %d bytes, error %d", h, len(content), len(b), e)
			}
			got, back, rest, e := tlv.One(b)
			if got != c.head || !bytes.Equal(back, content) || len(rest) != 0 || e != api.OK {
				t.Errorf("One(Wrap(%+v)) = %+v, %d bytes, % X, %d", h, got, len(back), rest, e)
			}
		}
	}
}

func TestWrapRejectsInvalidHeaders(t *testing.T) {
	for _, h := range badIdentifiers() {
		for _, content := range [][]byte{nil, {0x01, 0x02}} {
			if b, e := tlv.Wrap(h, content); len(b) != 0 || e != api.ErrArg {
				t.Errorf("Wrap(%+v, % X) = % X, %d; want ErrArg", h, content, b, e)
			}
		}
	}
}
