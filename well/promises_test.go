package well_test

import (
	"bytes"
	"slices"
	"testing"

	"sobriquet/api"
	"sobriquet/tlv"
	"sobriquet/well"
)

// P2.1: of all strings of some bytes, Check accepts those that the chapter calls well formed, and the three calls agree.
func TestCheckAcceptsExactlyWellFormedValues(t *testing.T) {
	alphabet := []byte{0x00, 0x01, 0x02, 0x03, 0x04, 0x05, 0x1F, 0x24, 0x30, 0x80, 0xA1}
	count := 1
	for length := range 7 {
		for n := range count {
			mustAgree(t, spell(alphabet, length, n))
		}
		count *= len(alphabet)
	}
}

// spell returns the string of the length whose bytes are the digits of n, with the alphabet as the digits.
func spell(alphabet []byte, length, n int) []byte {
	b := make([]byte, length)
	for i := range b {
		b[i] = alphabet[n%len(alphabet)]
		n /= len(alphabet)
	}
	return b
}

func mustAgree(t *testing.T, b []byte) {
	t.Helper()
	at, e := well.Check(b)
	depth, f := well.Depth(b)
	l, g := well.Parts(b)
	if want := depthOf(b); (e == api.OK) != (want > 0) || depth != want {
		t.Fatalf("Check(% X) = %d, %d, and the depth is %d; want %d", b, at, e, depth, want)
	}
	if e != f || e != api.OK && (e != g || len(l) != 0) {
		t.Fatalf("of % X, the errors are %d, %d and %d", b, e, f, g)
	}
	switch {
	case e == api.OK:
		mustConsistOf(t, b, l, g)
	case e == api.ErrTrailing:
		mustBeginWithAValue(t, b, at)
	default:
		mustMove(t, b, at, e)
	}
}

// depthOf returns the depth of a value, after the chapter's definition; 0 if b is none. Strings that would exceed MaxDepth are too long for it.
func depthOf(b []byte) int {
	h, content, rest, e := tlv.One(b)
	if e != api.OK || len(rest) > 0 {
		return 0
	}
	must := h.Class == 0 && (h.Tag == 8 || h.Tag == 11 || h.Tag == 16 || h.Tag == 17)
	free := h.Class != 0 || h.Tag >= 31
	if h.Class == 0 && h.Tag == 0 || !free && must != h.Cons {
		return 0
	}
	deepest := 1
	for h.Cons && len(content) > 0 {
		_, _, after, e := tlv.One(content)
		inner := depthOf(content[:len(content)-len(after)])
		if e != api.OK || inner == 0 {
			return 0
		}
		deepest = max(deepest, 1+inner)
		content = after
	}
	return deepest
}

// mustConsistOf checks that the parts of a well-formed value make its content.
func mustConsistOf(t *testing.T, b []byte, parts [][]byte, e api.Errno) {
	t.Helper()
	h, content, _, _ := tlv.One(b)
	switch {
	case h.Cons && (e != api.OK || !bytes.Equal(bytes.Join(parts, nil), content)):
		t.Fatalf("Parts(% X) = % X, %d", b, parts, e)
	case !h.Cons && (e != api.ErrForm || len(parts) != 0):
		t.Fatalf("Parts(% X) = % X, %d; want ErrForm", b, parts, e)
	}
	for _, part := range parts {
		if depthOf(part) == 0 {
			t.Fatalf("Parts(% X) = % X: not values", b, parts)
		}
	}
}

// mustBeginWithAValue checks that ErrTrailing names the end of the outermost value.
func mustBeginWithAValue(t *testing.T, b []byte, at int) {
	t.Helper()
	if at <= 0 || at >= len(b) || depthOf(b[:at]) == 0 {
		t.Fatalf("Check(% X) = %d, ErrTrailing", b, at)
	}
}

// mustMove checks that any other error remains where b is a part, and that its offset moves by what stands before b.
func mustMove(t *testing.T, b []byte, at int, e api.Errno) {
	t.Helper()
	if len(b) == 0 {
		return
	}
	moved := append([]byte{0x31, byte(2 + len(b)), 0x05, 0x00}, b...)
	if got, f := well.Check(moved); got != 4+at || f != e {
		t.Fatalf("Check(% X) = %d, %d, but Check(% X) = %d, %d", b, at, e, moved, got, f)
	}
}

// R1: values nested as deeply as bytes allow are rejected like others.
func TestDeeplyNestedBytes(t *testing.T) {
	const levels = 200000
	// From the innermost value on, and back to front, since a length depends on what it encloses.
	var b []byte
	length := 0
	for range levels {
		header, e := tlv.Bytes(api.Head{Tag: 16, Cons: true, Len: length})
		if e != api.OK {
			t.Fatalf("Bytes: error %d", e)
		}
		slices.Reverse(header)
		b = append(b, header...)
		length += len(header)
	}
	slices.Reverse(b)
	at := 0
	for range api.MaxDepth {
		h, _ := tlv.Read(b[at:])
		at += h.Size
	}
	mustFail(t, b, at, api.ErrDepth)
	// A part of a sequence of 48 bytes is to have 48 bytes of its own behind its header, which are too many.
	mustFail(t, bytes.Repeat([]byte{0x30}, levels), 2, api.ErrShort)
	mustFail(t, bytes.Repeat([]byte{0x30, 0x80}, levels), 0, api.ErrLength)
	mustFail(t, bytes.Repeat([]byte{0xFF}, levels), 0, api.ErrTag)
}

// R1: a value of very many parts is taken apart like any other.
func TestManyParts(t *testing.T) {
	const count = 50000
	b := wrap(t, api.Head{Tag: 16, Cons: true}, bytes.Repeat([]byte{0x05, 0x00}, count))
	mustBe(t, b, 2)
	l, e := well.Parts(b)
	if len(l) != count || e != api.OK {
		t.Fatalf("Parts: %d parts, error %d; want %d", len(l), e, count)
	}
	for i, part := range l {
		if !bytes.Equal(part, []byte{0x05, 0x00}) {
			t.Fatalf("part %d is % X", i, part)
		}
	}
}

// R2: the argument is left alone with its spare capacity, and shares no memory with the parts, nor do these with one another.
func TestPartsReturnsNewMemory(t *testing.T) {
	want := [][]byte{{0x30, 0x02, 0x05, 0x00}, {0x04, 0x01, 0x09}, {0x05, 0x00}}
	whole := append(wrap(t, api.Head{Tag: 17, Cons: true}, want...), 0xC1, 0xC2, 0xC3)
	before := bytes.Clone(whole)
	b := whole[:len(whole)-3]
	for spoiled := range want {
		mustBe(t, b, 3)
		l, e := well.Parts(b)
		if len(l) != len(want) || e != api.OK {
			t.Fatalf("Parts(% X) = % X, %d", b, l, e)
		}
		spoil(l[spoiled])
		if !bytes.Equal(whole, before) {
			t.Fatalf("the argument % X has become % X", before, whole)
		}
		for i := range want {
			if i != spoiled && !bytes.Equal(l[i], want[i]) {
				t.Errorf("part %d shares memory with part %d: % X", i, spoiled, l[i])
			}
		}
	}
	mustHaveParts(t, b, want)
}

// spoil writes over a list and over its spare capacity.
func spoil(b []byte) {
	full := b[:cap(b)]
	for i := range full {
		full[i] = 0xEE
	}
}

// samples are well-formed values of each shape, with their depths.
func samples(t *testing.T) (values [][]byte, depths []int) {
	t.Helper()
	put := func(b []byte, depth int) {
		values = append(values, b)
		depths = append(depths, depth)
	}
	put([]byte{0x05, 0x00}, 1)
	put([]byte{0x30, 0x00}, 1)
	put([]byte{0x04, 0x02, 0x30, 0x80}, 1)
	put([]byte{0x9F, 0x81, 0x49, 0x00}, 1)
	put([]byte{0x31, 0x06, 0x30, 0x00, 0x04, 0x00, 0x30, 0x00}, 2)
	put([]byte{0xA0, 0x04, 0x30, 0x02, 0x05, 0x00}, 3)
	put(wrap(t, api.Head{Tag: 4}, make([]byte, 0x7D)), 1)
	put(wrap(t, api.Head{Class: 1, Tag: 40, Cons: true}, wrap(t, api.Head{Tag: 4}, make([]byte, 0x10000))), 2)
	put(nest(t, api.MaxDepth-1), api.MaxDepth-1)
	put(nest(t, api.MaxDepth), api.MaxDepth)
	return values, depths
}

// P2.2: Parts returns the values that a sequence was made of, unless they are too deep for it.
func TestPartsReturnsWhatASequenceWasMadeOf(t *testing.T) {
	values, depths := samples(t)
	for i, b := range values {
		mustBe(t, b, depths[i])
	}
	mustReturn(t, nil, 0)
	for i := range values {
		mustReturn(t, values[i:i+1], depths[i])
		for j := range values {
			mustReturn(t, [][]byte{values[i], values[j]}, max(depths[i], depths[j]))
			for k := range values {
				l := [][]byte{values[i], values[j], values[k]}
				mustReturn(t, l, max(depths[i], depths[j], depths[k]))
			}
		}
	}
}

// mustReturn checks Parts of a sequence of the values, of which the deepest one has this depth.
func mustReturn(t *testing.T, values [][]byte, deepest int) {
	t.Helper()
	b := wrap(t, api.Head{Tag: 16, Cons: true}, values...)
	if deepest < api.MaxDepth {
		mustHaveParts(t, b, values)
		mustBe(t, b, deepest+1)
		return
	}
	if l, e := well.Parts(b); len(l) != 0 || e != api.ErrDepth {
		t.Fatalf("Parts(% X) = %d parts, %d; want ErrDepth", head(b), len(l), e)
	}
}
