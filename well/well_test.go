package well_test

import (
	"bytes"
	"slices"
	"testing"

	"sobriquet/api"
	"sobriquet/tlv"
	"sobriquet/well"
)

// wrap returns a value with the content; its header is that of Wrap, or the test ends.
func wrap(t *testing.T, h api.Head, content ...[]byte) []byte {
	t.Helper()
	b, e := tlv.Wrap(h, bytes.Join(content, nil))
	if e != api.OK {
		t.Fatalf("Wrap(%+v): error %d", h, e)
	}
	return b
}

// nest puts the content into n sequences, one in another, with lengths of whatever size they need.
func nest(t *testing.T, n int, content ...byte) []byte {
	t.Helper()
	for range n {
		content = wrap(t, api.Head{Tag: 16, Cons: true}, content)
	}
	return content
}

// head returns the first bytes of b, as many as a message can show.
func head(b []byte) []byte {
	return b[:min(len(b), 100)]
}

// mustBe checks what Check and Depth return for a well-formed value.
func mustBe(t *testing.T, b []byte, depth int) {
	t.Helper()
	if at, e := well.Check(b); at != 0 || e != api.OK {
		t.Errorf("Check(% X) = %d, %d; want no error", head(b), at, e)
	}
	if got, e := well.Depth(b); got != depth || e != api.OK {
		t.Errorf("Depth(% X) = %d, %d; want %d", head(b), got, e, depth)
	}
}

// mustFail checks that all three calls return the error, with their other results zero (R4).
func mustFail(t *testing.T, b []byte, at int, want api.Errno) {
	t.Helper()
	if got, e := well.Check(b); got != at || e != want {
		t.Errorf("Check(% X) = %d, %d; want %d, %d", head(b), got, e, at, want)
	}
	if depth, e := well.Depth(b); depth != 0 || e != want {
		t.Errorf("Depth(% X) = %d, %d; want error %d", head(b), depth, e, want)
	}
	if l, e := well.Parts(b); len(l) != 0 || e != want {
		t.Errorf("Parts(% X) = %d parts, %d; want error %d", head(b), len(l), e, want)
	}
}

// P2.1: a value without parts in it, and the depth where there are some.
func TestDepthIsTheGreatestOne(t *testing.T) {
	for _, c := range []struct {
		b     []byte
		depth int
	}{
		{[]byte{0x05, 0x00}, 1},
		{[]byte{0x04, 0x02, 0x30, 0x80}, 1}, // a content that isn't values
		{[]byte{0x80, 0x01, 0x00}, 1},
		{[]byte{0x30, 0x00}, 1},
		{[]byte{0x30, 0x03, 0x02, 0x01, 0x05}, 2},
		{[]byte{0x30, 0x02, 0x30, 0x00}, 2},
		{[]byte{0x30, 0x06, 0x30, 0x02, 0x05, 0x00, 0x05, 0x00}, 3}, // the first part is the deeper one
		{[]byte{0x30, 0x06, 0x05, 0x00, 0x30, 0x02, 0x05, 0x00}, 3}, // the last part is
		{[]byte{0x31, 0x0A, 0x05, 0x00, 0xA0, 0x04, 0x28, 0x02, 0x2B, 0x00, 0x05, 0x00}, 4},
		{[]byte{0x3F, 0x1F, 0x05, 0x1F, 0x81, 0x00, 0x01, 0x00}, 2},
		{append([]byte{0x30, 0x81, 0x83, 0x04, 0x81, 0x80}, make([]byte, 0x80)...), 2},
	} {
		mustBe(t, c.b, c.depth)
	}
}

// P2.1: which tags demand parts, which allow none, and which allow both.
func TestFormOfEachTag(t *testing.T) {
	constructed := []int{8, 11, 16, 17}
	for class := range 4 {
		for _, tag := range append(seq(40), 127, 128, 1<<14, api.MaxTag) {
			for _, cons := range []bool{false, true} {
				b := wrap(t, api.Head{Class: class, Tag: tag, Cons: cons})
				switch {
				case class != 0 || tag > 30:
					mustBe(t, b, 1)
				case tag == 0:
					mustFail(t, b, 0, api.ErrTag)
				case cons == slices.Contains(constructed, tag):
					mustBe(t, b, 1)
				default:
					mustFail(t, b, 0, api.ErrForm)
				}
			}
		}
	}
}

// seq lists the numbers below n.
func seq(n int) []int {
	l := make([]int, n)
	for i := range l {
		l[i] = i
	}
	return l
}

// P2.1: each error at the outermost value and at parts, with the offset of the value at fault.
func TestCheckReturnsTheOffsetOfTheValueAtFault(t *testing.T) {
	for _, c := range []struct {
		b  []byte
		at int
		e  api.Errno
	}{
		{nil, 0, api.ErrShort},
		{[]byte{0x05}, 0, api.ErrShort},
		{[]byte{0x1F, 0x1E, 0x00}, 0, api.ErrTag},
		{[]byte{0x30, 0x80, 0x00, 0x00}, 0, api.ErrLength},
		{[]byte{0x04, 0x81, 0x05}, 0, api.ErrLength},
		{[]byte{0x00, 0x00}, 0, api.ErrTag},
		{[]byte{0x24, 0x00}, 0, api.ErrForm},
		{[]byte{0x04, 0x01}, 0, api.ErrShort},
		{[]byte{0x30, 0x02, 0x05}, 0, api.ErrShort},
		{[]byte{0x04, 0x84, 0x7F, 0xFF, 0xFF, 0xFF, 0x00}, 0, api.ErrShort},
		{[]byte{0x30, 0x04, 0x05, 0x00, 0x1F, 0x80}, 4, api.ErrTag},
		{[]byte{0x30, 0x04, 0x05, 0x00, 0x05, 0x80}, 4, api.ErrLength},
		{[]byte{0x30, 0x04, 0x05, 0x00, 0x00, 0x00}, 4, api.ErrTag},
		{[]byte{0x30, 0x04, 0x05, 0x00, 0x10, 0x00}, 4, api.ErrForm},
		{[]byte{0x30, 0x04, 0x05, 0x00, 0x04, 0x01}, 4, api.ErrShort},
		{[]byte{0x30, 0x03, 0x05, 0x00, 0x05}, 4, api.ErrShort},
		{[]byte{0x30, 0x06, 0x30, 0x04, 0x05, 0x00, 0x00, 0x00}, 6, api.ErrTag},
		{[]byte{0x30, 0x06, 0x30, 0x02, 0x05, 0x00, 0x00, 0x00}, 6, api.ErrTag},
		{[]byte{0x3F, 0x1F, 0x02, 0x00, 0x00}, 3, api.ErrTag},
		{append([]byte{0x30, 0x81, 0x85, 0x04, 0x81, 0x80}, append(make([]byte, 0x80), 0x2C, 0x00)...), 134, api.ErrForm},
		{[]byte{0x05, 0x00, 0x05}, 2, api.ErrTrailing},
		{[]byte{0x04, 0x01, 0x07, 0x04, 0x01, 0x07}, 3, api.ErrTrailing},
		{[]byte{0x30, 0x02, 0x05, 0x00, 0x00}, 4, api.ErrTrailing},
		{[]byte{0x80, 0x00, 0x1F, 0x80}, 2, api.ErrTrailing},
	} {
		mustFail(t, c.b, c.at, c.e)
	}
}

// P2.1: where several errors apply at a value, the first one in the order of the chapter is returned.
func TestCheckReturnsTheFirstErrorAtAValue(t *testing.T) {
	for _, c := range []struct {
		b []byte
		e api.Errno
	}{
		{[]byte{0x00}, api.ErrShort},           // no length, before tag 0
		{[]byte{0x00, 0x80}, api.ErrLength},    // before tag 0
		{[]byte{0x24, 0x85}, api.ErrLength},    // before the form
		{[]byte{0x20, 0x00}, api.ErrTag},       // tag 0, before its form
		{[]byte{0x00, 0x09}, api.ErrTag},       // before the missing content
		{[]byte{0x20, 0x05, 0x05}, api.ErrTag}, // before the missing content
		{[]byte{0x24, 0x09}, api.ErrForm},      // before the missing content
		{[]byte{0x10, 0x84, 0x7F, 0xFF, 0xFF, 0xFF}, api.ErrForm},
	} {
		mustFail(t, c.b, 0, c.e)
		inner := append([]byte{0x30, byte(len(c.b))}, c.b...)
		mustFail(t, inner, 2, c.e)
		mustFail(t, nest(t, api.MaxDepth-1, c.b...), 2*(api.MaxDepth-1), c.e)
		mustFail(t, nest(t, api.MaxDepth, c.b...), 2*api.MaxDepth, api.ErrDepth)
	}
}

// P2.1: values are examined in the order of their first bytes, each one before its parts, and what follows the outermost one comes last.
func TestCheckReturnsTheErrorOfTheFirstValue(t *testing.T) {
	for _, c := range []struct {
		b  []byte
		at int
		e  api.Errno
	}{
		{[]byte{0x24, 0x02, 0x00, 0x00}, 0, api.ErrForm},                         // not its part's
		{[]byte{0x30, 0x05, 0x00, 0x00}, 0, api.ErrShort},                        // not its part's
		{[]byte{0x30, 0x06, 0x24, 0x02, 0x00, 0x00, 0x05, 0x80}, 2, api.ErrForm}, // neither its part's nor the next one's
		{[]byte{0x30, 0x06, 0x30, 0x02, 0x00, 0x00, 0x24, 0x00}, 4, api.ErrTag},  // not that of the part behind it
		{[]byte{0x30, 0x06, 0x30, 0x02, 0x04, 0x01, 0x05, 0x00}, 4, api.ErrShort},
		{[]byte{0x30, 0x02, 0x00, 0x00, 0x05}, 2, api.ErrTag}, // not what follows the outermost value
		{[]byte{0x10, 0x00, 0x05}, 0, api.ErrForm},
	} {
		mustFail(t, c.b, c.at, c.e)
	}
}

// P2.1: a value ends within its enclosing one, even if b goes on.
func TestPartsEndWithTheEnclosingValue(t *testing.T) {
	mustFail(t, []byte{0x30, 0x01, 0x04, 0x00}, 2, api.ErrShort)
	mustFail(t, []byte{0x30, 0x03, 0x05, 0x00, 0x1F, 0x1F, 0x00}, 4, api.ErrShort)
	mustFail(t, []byte{0x30, 0x04, 0x30, 0x03, 0x05, 0x00, 0x05, 0x00}, 2, api.ErrShort)
	mustFail(t, []byte{0x30, 0x07, 0x30, 0x03, 0x04, 0x02, 0x07, 0x05, 0x00}, 4, api.ErrShort)
	mustFail(t, []byte{0x30, 0x06, 0x30, 0x01, 0x05, 0x00, 0x05, 0x00}, 4, api.ErrShort)
}

// P2.1: MaxDepth is allowed, for any value, and one more is not.
func TestDepthOfAtMostMaxDepth(t *testing.T) {
	for n := 1; n <= api.MaxDepth; n++ {
		mustBe(t, nest(t, n), n)
	}
	primitive := []byte{0x05, 0x00}
	mustBe(t, nest(t, api.MaxDepth-1, primitive...), api.MaxDepth)
	for n := api.MaxDepth + 1; n < 70; n++ {
		mustFail(t, nest(t, n), len(nest(t, n))-2*(n-api.MaxDepth), api.ErrDepth)
	}
	mustFail(t, nest(t, api.MaxDepth, primitive...), 2*api.MaxDepth, api.ErrDepth)
	// No byte of a value that is too deep is examined.
	mustFail(t, nest(t, api.MaxDepth, 0x1F), 2*api.MaxDepth, api.ErrDepth)
	// Private values are as deep as others, and headers of more bytes than two move the offset.
	long := []byte{}
	for range api.MaxDepth + 1 {
		long = wrap(t, api.Head{Class: 3, Tag: 31, Cons: true}, long)
	}
	mustFail(t, long, 3*api.MaxDepth, api.ErrDepth)
	mustBe(t, long[3:], api.MaxDepth)
}

// P2.1: the depth is that of each value, not the number of the values before it.
func TestDepthOfManyParts(t *testing.T) {
	deep := nest(t, api.MaxDepth-1)
	many := bytes.Repeat(deep, 50)
	mustBe(t, wrap(t, api.Head{Tag: 17, Cons: true}, many, []byte{0x05, 0x00}), api.MaxDepth)
	tooDeep := nest(t, api.MaxDepth)
	b := wrap(t, api.Head{Tag: 17, Cons: true}, many, tooDeep, tooDeep)
	at := len(b) - len(tooDeep) - 2
	mustFail(t, b, at, api.ErrDepth)
}

// R6: what stands behind the length of b does not belong to it.
func TestSpareCapacityIsNotRead(t *testing.T) {
	b := []byte{0x30, 0x05, 0x30, 0x03, 0x04, 0x01, 0x09}
	mustBe(t, b, 3)
	for i := range b {
		mustFail(t, b[:i], 0, api.ErrShort)
	}
	mustBe(t, append(bytes.Clone(b), 0x05, 0x00)[:len(b)], 3)
}

// P2.1: the parts of a value, each one with its header.
func TestPartsReturnsThePartsWithTheirHeaders(t *testing.T) {
	long := append([]byte{0x04, 0x82, 0x01, 0x00}, make([]byte, 0x100)...)
	for _, h := range []api.Head{{Tag: 8}, {Tag: 11}, {Tag: 16}, {Tag: 17}, {Tag: 31}, {Class: 1}, {Class: 2, Tag: 4}, {Class: 3, Tag: api.MaxTag}} {
		h.Cons = true
		for _, want := range [][][]byte{
			{},
			{{0x05, 0x00}},
			{{0x02, 0x01, 0x05}},
			{{0x30, 0x02, 0x05, 0x00}, {0x04, 0x01, 0x09}, {0x05, 0x00}},
			{{0x05, 0x00}, {0x05, 0x00}, {0x30, 0x00}},
			{long, {0x9F, 0x81, 0x00, 0x01, 0x2A}, long},
			{nest(t, api.MaxDepth-1)},
		} {
			mustHaveParts(t, wrap(t, h, want...), want)
		}
	}
}

func mustHaveParts(t *testing.T, b []byte, want [][]byte) {
	t.Helper()
	l, e := well.Parts(b)
	if !slices.EqualFunc(l, want, bytes.Equal) || e != api.OK {
		t.Errorf("Parts(% X) = %d parts, %d; want %d parts", head(b), len(l), e, len(want))
	}
}

// P2.1: a value that isn't constructed has no parts, even where its content looks like some; but an error of Check comes first.
func TestPartsOfAPrimitiveValue(t *testing.T) {
	for _, b := range [][]byte{{0x05, 0x00}, {0x04, 0x02, 0x05, 0x00}, {0x80, 0x00}, {0x80, 0x02, 0x05, 0x00}, {0x1F, 0x1F, 0x02, 0x05, 0x00}} {
		mustBe(t, b, 1)
		if l, e := well.Parts(b); len(l) != 0 || e != api.ErrForm {
			t.Errorf("Parts(% X) = % X, %d; want ErrForm", b, l, e)
		}
		mustFail(t, append(bytes.Clone(b), 0x00), len(b), api.ErrTrailing)
		mustFail(t, b[:len(b)-1], 0, api.ErrShort)
	}
}
