package str_test

import (
	"bytes"
	"math"
	"slices"
	"strings"
	"testing"

	"sobriquet/api"
	"sobriquet/str"
)

// kinds are the eight kinds.
var kinds = []int{api.Utf8, api.Numeric, api.Printable, api.Teletex, api.Ia5, api.Visible, api.Universal, api.Bmp}

// scalars returns the scalars of text.
func scalars(text string) []int {
	var s []int
	for _, r := range text {
		s = append(s, int(r))
	}
	return s
}

// mustPut checks what Put returns for s.
func mustPut(t *testing.T, kind int, s []int, want string, at int, fault api.Errno) {
	if b, got, e := str.Put(kind, s); string(b) != want || got != at || e != fault {
		t.Helper()
		t.Errorf("Put(%d, %#x) = % X, %d, %d; want % X, %d, %d", kind, s, b, got, e, want, at, fault)
	}
}

// mustGet checks what Get returns for the content.
func mustGet(t *testing.T, kind int, content string, want []int, at int, fault api.Errno) {
	if s, got, e := str.Get(kind, []byte(content)); !slices.Equal(s, want) || got != at || e != fault {
		t.Helper()
		t.Errorf("Get(%d, % X) = %#x, %d, %d; want %#x, %d, %d", kind, content, s, got, e, want, at, fault)
	}
}

// mustEncode checks what Encode returns for s.
func mustEncode(t *testing.T, kind int, s []int, want string, at int, fault api.Errno) {
	if b, got, e := str.Encode(kind, s); string(b) != want || got != at || e != fault {
		t.Helper()
		t.Errorf("Encode(%d, %#x) = % X, %d, %d; want % X, %d, %d", kind, s, b, got, e, want, at, fault)
	}
}

// mustDecode checks what Decode returns for the value.
func mustDecode(t *testing.T, kind int, value string, want []int, at int, fault api.Errno) {
	if s, got, e := str.Decode(kind, []byte(value)); !slices.Equal(s, want) || got != at || e != fault {
		t.Helper()
		t.Errorf("Decode(%d, % X) = %#x, %d, %d; want %#x, %d, %d", kind, value, s, got, e, want, at, fault)
	}
}

// mustTranscode checks what Transcode returns for the value.
func mustTranscode(t *testing.T, from, to int, value, want string, at int, fault api.Errno) {
	if b, got, e := str.Transcode(from, to, []byte(value)); string(b) != want || got != at || e != fault {
		t.Helper()
		t.Errorf("Transcode(%d, %d, % X) = % X, %d, %d; want % X, %d, %d", from, to, value, b, got, e, want, at, fault)
	}
}

// short returns the value of a content of fewer than 128 bytes.
func short(kind int, content string) string {
	return string([]byte{byte(kind), byte(len(content))}) + content
}

// sample is a text, and its content as a string of a kind.
type sample struct {
	kind          int
	text, content string
}

// samples returns texts of each kind. Those of Teletex are in the normal form.
func samples() []sample {
	l := []sample{
		{api.Utf8, "a", "a"},
		{api.Utf8, "aé€😀", "a\xC3\xA9\xE2\x82\xAC\xF0\x9F\x98\x80"},
		{api.Utf8, "\x00\x7F\u0080\U0010FFFF", "\x00\x7F\xC2\x80\xF4\x8F\xBF\xBF"},
		{api.Numeric, "12 3", "12 3"},
		{api.Printable, "John's (a+b), c-d.e/f:g=h?", "John's (a+b), c-d.e/f:g=h?"},
		{api.Teletex, "À", "\xC1A"},
		{api.Teletex, "a$ é{", "a\xA4 \xC2e\x1B\x28B{"},
		{api.Teletex, "αé", "\x1B\x28Fa\x1B\x28u\xC2e"},
		{api.Ia5, "\x00a*@_\x7F", "\x00a*@_\x7F"},
		{api.Visible, " {a}*~", " {a}*~"},
		{api.Universal, "aé水😀", "\x00\x00\x00a\x00\x00\x00\xE9\x00\x00\x6C\x34\x00\x01\xF6\x00"},
		{api.Universal, "\x00\uFFFF\U00010000\U0010FFFF", "\x00\x00\x00\x00\x00\x00\xFF\xFF\x00\x01\x00\x00\x00\x10\xFF\xFF"},
		{api.Bmp, "aé水", "\x00a\x00\xE9\x6C\x34"},
		{api.Bmp, "\x00\uD7FF\uE000\uFFFF", "\x00\x00\xD7\xFF\xE0\x00\xFF\xFF"},
	}
	for _, kind := range kinds {
		l = append(l, sample{kind, "", ""})
	}
	return l
}

// P19.1: the example of the chapter.
func TestExample(t *testing.T) {
	mustEncode(t, api.Printable, []int{'a'}, "\x13\x01\x61", 0, api.OK)
	mustDecode(t, api.Printable, "\x13\x01\x61", []int{'a'}, 0, api.OK)
}

// P19.1: texts of each kind as contents and as values.
func TestSamples(t *testing.T) {
	for _, x := range samples() {
		s := scalars(x.text)
		mustPut(t, x.kind, s, x.content, 0, api.OK)
		mustGet(t, x.kind, x.content, s, 0, api.OK)
		mustEncode(t, x.kind, s, short(x.kind, x.content), 0, api.OK)
		mustDecode(t, x.kind, short(x.kind, x.content), s, 0, api.OK)
		mustTranscode(t, x.kind, x.kind, short(x.kind, x.content), short(x.kind, x.content), 0, api.OK)
	}
}

// shifted returns each number of l with one bit added or taken away that a number of fewer bits does not have.
func shifted(l []int) []int {
	var all []int
	for _, x := range l {
		for _, shift := range []int{5, 7, 8, 16, 28, 31, 32, 48, 62, 63} {
			all = append(all, x+1<<shift, x-1<<shift)
		}
	}
	return all
}

// noKinds returns numbers that are none of the eight kinds: those near them, and far ones whose lowest bits are those of a kind.
func noKinds() []int {
	l := []int{api.Raw, math.MinInt, math.MinInt + 1, math.MinInt32, api.MaxTag, api.MaxTag + 1, math.MaxInt32, math.MaxUint32, math.MaxInt - 1, math.MaxInt}
	for kind := -300; kind <= 300; kind++ {
		if !slices.Contains(kinds, kind) {
			l = append(l, kind)
		}
	}
	return append(l, shifted(kinds)...)
}

// P19.1: the eight kinds, by their numbers, and no other number.
func TestIs(t *testing.T) {
	for _, kind := range []int{12, 18, 19, 20, 22, 26, 28, 30} {
		if !str.Is(kind) {
			t.Errorf("Is(%d) is false", kind)
		}
	}
	for _, kind := range noKinds() {
		if str.Is(kind) {
			t.Errorf("Is(%d) is true", kind)
		}
	}
}

// P19.1, R1: what is none of the eight kinds has no scalar, and its error comes first, with at 0.
func TestNoKind(t *testing.T) {
	lists := [][]int{nil, {}, {'1'}, {'1', ' '}, {'1', -1}, {math.MaxInt}}
	for _, kind := range noKinds() {
		for _, c := range []int{math.MinInt, -1, 0, ' ', '1', 'a', 0xE9, 0xD800, 0x10000, api.MaxScalar, math.MaxInt} {
			if str.Has(kind, c) {
				t.Errorf("Has(%d, %#x) is true", kind, c)
			}
		}
		for _, s := range lists {
			mustPut(t, kind, s, "", 0, api.ErrKind)
			mustEncode(t, kind, s, "", 0, api.ErrKind)
		}
		for _, b := range []string{"", "1", "1\xFF", "\x0C", "\x0C\x80", "\x0C\x01", "\x13\x011", "\x2C\x011", "\x0C\x0111", short(kind, "1")} {
			mustGet(t, kind, b, nil, 0, api.ErrKind)
			mustDecode(t, kind, b, nil, 0, api.ErrKind)
			mustTranscode(t, kind, api.Utf8, b, "", 0, api.ErrKind)
			mustTranscode(t, kind, kind, b, "", 0, api.ErrKind)
		}
	}
}

// P19.1: characters that each kind has, and those beside them that it does not have.
func TestHas(t *testing.T) {
	for _, x := range []struct {
		kind     int
		has, not []int
	}{
		{api.Utf8, []int{0, 0x7F, 0x80, 0x7FF, 0x800, 0xD7FF, 0xE000, 0xFFFF, 0x10000, 0x10FFFF}, []int{-1, 0xD800, 0xDFFF, 0x110000}},
		{api.Numeric, []int{' ', '0', '9'}, []int{0, '\t', 0x1F, '!', '/', ':', 'A', 0xA0, 0x660}},
		{api.Printable, []int{' ', '\'', '(', ')', '+', ',', '-', '.', '/', '0', '9', ':', '=', '?', 'A', 'Z', 'a', 'z'}, []int{0, '!', '"', '&', '*', ';', '<', '>', '@', '[', '_', '`', '{', 0x7F, 0xE9}},
		{api.Teletex, []int{8, 10, 12, 13, ' ', 'A', '$', '{', 0xA4, 0xC0, 0xE9, 0x3B1, 0x42F, 0x5D0, 0x3042}, []int{0, 9, 0x7F, 0xA0, 0x300, 0x1EA4, 0x6C34, 0xD800, 0x10000}},
		{api.Ia5, []int{0, 9, 0x1F, ' ', '*', '~', 0x7F}, []int{-1, 0x80, 0xE9, 0x100}},
		{api.Visible, []int{' ', '*', '@', '~'}, []int{0, 0x1F, 0x7F, 0xA0, 0xE9}},
		{api.Universal, []int{0, 0x7F, 0x80, 0xD7FF, 0xE000, 0xFFFF, 0x10000, 0x10FFFF}, []int{-1, 0xD800, 0xDFFF, 0x110000}},
		{api.Bmp, []int{0, 0x7F, 0x80, 0xD7FF, 0xE000, 0xFFFF}, []int{-1, 0xD800, 0xDFFF, 0x10000, 0x10FFFF}},
	} {
		for _, c := range x.has {
			if !str.Has(x.kind, c) {
				t.Errorf("Has(%d, %#x) is false", x.kind, c)
			}
		}
		for _, c := range x.not {
			if str.Has(x.kind, c) {
				t.Errorf("Has(%d, %#x) is true", x.kind, c)
			}
		}
	}
}

// P19.1: Put and Encode tell the index of the first number that the kind does not have.
func TestFaultsOfScalars(t *testing.T) {
	for _, x := range []struct {
		kind int
		s    []int
		at   int
	}{
		{api.Utf8, []int{0xD800}, 0},
		{api.Utf8, []int{'a', 0x10FFFF, 0xDFFF, -1}, 2},
		{api.Numeric, []int{'1', ' ', 'a', '*'}, 2},
		{api.Printable, []int{'a', '*', 'b', '*'}, 1},
		{api.Teletex, []int{0xE9, 0x3B1, 0x6C34, 0}, 2},
		{api.Teletex, []int{'\t'}, 0},
		{api.Ia5, []int{0, 0x7F, 0x80}, 2},
		{api.Visible, []int{'~', 0x7F}, 1},
		{api.Universal, []int{0x10FFFF, 0x110000, -1}, 1},
		{api.Universal, []int{'a', 'b', 0xDC00}, 2},
		{api.Bmp, []int{0xFFFF, 0x10000, 0xD800}, 1},
		{api.Bmp, []int{0xFFFF, 'a', 0xD800, 0x10000}, 2},
	} {
		mustPut(t, x.kind, x.s, "", x.at, api.ErrNot)
		mustEncode(t, x.kind, x.s, "", x.at, api.ErrNot)
	}
	for _, kind := range kinds {
		for _, c := range []int{math.MinInt, -1, 0xD800, 0xDFFF, api.MaxScalar + 1, 1<<32 + '1', math.MaxInt} {
			mustPut(t, kind, []int{c}, "", 0, api.ErrNot)
			mustEncode(t, kind, []int{'1', ' ', c, '1', -1}, "", 2, api.ErrNot)
		}
	}
}

// badContent is a content that a kind does not have, with the place and the error that Get tells.
type badContent struct {
	kind    int
	content string
	at      int
	fault   api.Errno
}

// badContents returns contents that have each of the errors of each kind.
func badContents() []badContent {
	return []badContent{
		{api.Utf8, "\x80", 0, api.ErrBytes},
		{api.Utf8, "a\xFF\xFF", 1, api.ErrBytes},
		{api.Utf8, "a\xC0\x80", 1, api.ErrBytes},
		{api.Utf8, "\xC3\xA9\xED\xA0\x80", 2, api.ErrBytes},
		{api.Utf8, "ab\xE2\x82", 2, api.ErrBytes},
		{api.Numeric, "1 a*", 2, api.ErrRepertoire},
		{api.Numeric, "\xB1", 0, api.ErrRepertoire},
		{api.Printable, "a*b*", 1, api.ErrRepertoire},
		{api.Printable, "ab@", 2, api.ErrRepertoire},
		{api.Teletex, "a\x1B\x28", 1, api.ErrShort},
		{api.Teletex, "ab\xC1", 2, api.ErrShort},
		{api.Teletex, "\x1B\x28Fa\xC1", 1, api.ErrShort},
		{api.Teletex, "a\x1B\x28\x41b", 1, api.ErrSet},
		{api.Teletex, "a\x00", 1, api.ErrBytes},
		{api.Teletex, "\x1B\x28Fa\x7F", 4, api.ErrBytes},
		{api.Teletex, "\xC1A\xC1b", 2, api.ErrRepertoire},
		{api.Teletex, "{", 0, api.ErrRepertoire},
		{api.Ia5, "\x7F\x80", 1, api.ErrRepertoire},
		{api.Ia5, "a\xC3\xA9", 1, api.ErrRepertoire},
		{api.Visible, "ab\x7F", 2, api.ErrRepertoire},
		{api.Visible, "\n", 0, api.ErrRepertoire},
		{api.Universal, "\x00\x00\x00a\x00", 4, api.ErrBytes},
		{api.Universal, "\x00\x00\xD8\x00\x00\x00", 4, api.ErrBytes},
		{api.Universal, "\x00\x00\x00a\x00\x00\xD8\x00", 4, api.ErrRepertoire},
		{api.Universal, "\x00\x11\x00\x00", 0, api.ErrRepertoire},
		{api.Universal, "\x80\x00\x00a", 0, api.ErrRepertoire},
		{api.Bmp, "\x00a\x00", 2, api.ErrBytes},
		{api.Bmp, "\xD8\x00a", 2, api.ErrBytes},
		{api.Bmp, "\x00a\xD8\x00", 2, api.ErrRepertoire},
		{api.Bmp, "\xDF\xFF\xD8\x00", 0, api.ErrRepertoire},
	}
}

// P19.1: the error of a content and its place, which Decode tells relative to the content, and Transcode as Decode does.
func TestFaultsOfContents(t *testing.T) {
	for _, x := range badContents() {
		value := short(x.kind, x.content)
		mustGet(t, x.kind, x.content, nil, x.at, x.fault)
		mustDecode(t, x.kind, value, nil, x.at, x.fault)
		for _, to := range append(kinds, api.Raw, -1, 99) {
			mustTranscode(t, x.kind, to, value, "", x.at, x.fault)
		}
	}
	// The place does not count the header, however long that is.
	long := strings.Repeat("1", 70000)
	mustDecode(t, api.Ia5, "\x16\x83\x01\x11\x71"+long+"\x80", nil, len(long), api.ErrRepertoire)
	mustTranscode(t, api.Ia5, api.Utf8, "\x16\x83\x01\x11\x71"+long+"\x80", "", len(long), api.ErrRepertoire)
}

// header is the length bytes of a content.
type header struct {
	length int
	bytes  string
}

// headers returns the length bytes at each border.
func headers() []header {
	return []header{
		{0, "\x00"}, {1, "\x01"}, {4, "\x04"}, {124, "\x7C"}, {126, "\x7E"}, {127, "\x7F"},
		{128, "\x81\x80"}, {252, "\x81\xFC"}, {255, "\x81\xFF"}, {256, "\x82\x01\x00"},
		{65532, "\x82\xFF\xFC"}, {65535, "\x82\xFF\xFF"}, {65536, "\x83\x01\x00\x00"}, {1<<24 - 4, "\x83\xFF\xFF\xFC"}, {1 << 24, "\x84\x01\x00\x00\x00"},
	}
}

// ones returns the content of as many digits as fill the length; false if the kind has no content of this length.
func ones(kind, length int) (string, bool) {
	one := "1"
	switch kind {
	case api.Bmp:
		one = "\x001"
	case api.Universal:
		one = "\x00\x00\x001"
	}
	return strings.Repeat(one, length/len(one)), length%len(one) == 0
}

// P19.1: the header of contents of many lengths, up to one that needs four length bytes.
func TestLengths(t *testing.T) {
	for _, kind := range kinds {
		for _, h := range headers() {
			content, known := ones(kind, h.length)
			// The longest ones take much memory in the other kinds.
			if !known || h.length > 1<<16 && kind != api.Universal {
				continue
			}
			s, at, e := str.Get(kind, []byte(content))
			if at != 0 || e != api.OK {
				t.Fatalf("Get(%d) of %d bytes: %d, %d", kind, len(content), at, e)
			}
			want := string([]byte{byte(kind)}) + h.bytes + content
			b, at, e := str.Encode(kind, s)
			if string(b) != want || at != 0 || e != api.OK {
				t.Errorf("Encode(%d) of %d scalars has %d bytes, %d, %d", kind, len(s), len(b), at, e)
			}
			got, at, e := str.Decode(kind, []byte(want))
			if !slices.Equal(got, s) || at != 0 || e != api.OK {
				t.Errorf("Decode(%d) of %d bytes has %d scalars, %d, %d", kind, len(want), len(got), at, e)
			}
			if got, at, e := str.Decode(kind, append([]byte(want), 0)); len(got) != 0 || at != 0 || e != api.ErrTrailing {
				t.Errorf("Decode(%d) of %d bytes and 00 has %d scalars, %d, %d", kind, len(want), len(got), at, e)
			}
			if got, at, e := str.Decode(kind, []byte(want[:len(want)-1])); len(got) != 0 || at != 0 || e != api.ErrShort {
				t.Errorf("Decode(%d) of %d bytes less one has %d scalars, %d, %d", kind, len(want), len(got), at, e)
			}
			if b, at, e := str.Encode(kind, append(s, -1)); len(b) != 0 || at != len(s) || e != api.ErrNot {
				t.Errorf("Encode(%d) of %d scalars and -1 has %d bytes, %d, %d", kind, len(s), len(b), at, e)
			}
		}
	}
}

// P19.1, T1: a length in more bytes than it needs, and one without an end.
func TestLengthsThatAreNotMinimal(t *testing.T) {
	for _, kind := range kinds {
		for _, length := range []int{0, 4, 124, 128, 252, 256, 65536} {
			content, _ := ones(kind, length)
			full := []byte{byte(length >> 24), byte(length >> 16), byte(length >> 8), byte(length)}
			for skip := range full {
				count := len(full) - skip
				fits := length>>(8*count) == 0
				minimal := length >= 128 && full[skip] != 0
				if !fits || minimal {
					continue
				}
				b := append([]byte{byte(kind), byte(0x80 + count)}, full[skip:]...)
				mustDecode(t, kind, string(b)+content, nil, 0, api.ErrLength)
			}
			mustDecode(t, kind, string([]byte{byte(kind), 0x80})+content+"\x00\x00", nil, 0, api.ErrLength)
			mustDecode(t, kind, string([]byte{byte(kind), 0x85, 0})+string(full)+content, nil, 0, api.ErrLength)
		}
	}
}

// identifier is the bytes ahead of the length, with what is at fault with them: the header itself, the tag, the form.
type identifier struct {
	bytes           string
	head, tag, form api.Errno
}

// identifiers returns the right one of a kind, and others.
func identifiers(kind int) []identifier {
	b := func(l ...int) string {
		var text []byte
		for _, x := range l {
			text = append(text, byte(x))
		}
		return string(text)
	}
	const primitive, constructed = api.OK, api.ErrForm
	l := []identifier{
		{b(kind), api.OK, api.OK, primitive},
		{b(kind | 0x20), api.OK, api.OK, constructed},
		{b(0x1F, kind), api.ErrTag, api.OK, primitive},
		{b(0x1F, 0x80, kind), api.ErrTag, api.OK, primitive},
		{b(0x1F, 0x80|kind, kind), api.OK, api.ErrTag, primitive},
		{b(0x1F, 0x81, kind), api.OK, api.ErrTag, primitive},
		{b(0x3F, 0x20|kind), api.OK, api.ErrTag, constructed},
		{b(0x30), api.OK, api.ErrTag, constructed},
		{b(0x04), api.OK, api.ErrTag, primitive},
		{b(0x00), api.OK, api.ErrTag, primitive},
		{b(kind + 1), api.OK, api.ErrTag, primitive},
		{b(kind - 1), api.OK, api.ErrTag, primitive},
		{b(kind - 1 | 0x20), api.OK, api.ErrTag, constructed},
	}
	if kind+1 == 0x1F {
		l = slices.DeleteFunc(l, func(x identifier) bool { return x.bytes == "\x1F" })
	}
	for class := 0x40; class < 0x100; class += 0x40 {
		l = append(l, identifier{b(class | kind), api.OK, api.ErrTag, primitive}, identifier{b(class | 0x20 | kind), api.OK, api.ErrTag, constructed})
	}
	for _, other := range kinds {
		if other != kind {
			l = append(l, identifier{b(other), api.OK, api.ErrTag, primitive}, identifier{b(other | 0x20), api.OK, api.ErrTag, constructed})
		}
	}
	return l
}

// lengthBytes are the bytes of a length, with what is at fault with them.
type lengthBytes struct {
	bytes string
	fault api.Errno
}

// lengths returns the right one of a content that has other bytes behind it, and others.
func lengths(content, behind string) []lengthBytes {
	n := len(content)
	one := func(x int) string { return string([]byte{byte(x)}) }
	return []lengthBytes{
		{one(n), api.OK},
		{one(n + len(behind) + 1), api.ErrShort},
		{"\x7F", api.ErrShort},
		{"\x84\x7F\xFF\xFF\xFF", api.ErrShort},
		{"\x80", api.ErrLength},
		{"\x81" + one(n), api.ErrLength},
		{"\x82\x00" + one(n), api.ErrLength},
		{"\x84\x80\x00\x00" + one(n), api.ErrLength},
		{"\x85\x01\x00\x00\x00" + one(n), api.ErrLength},
		{"\xFF", api.ErrLength},
	}
}

// firstFault returns the first of the errors that is one.
func firstFault(l ...api.Errno) api.Errno {
	for _, e := range l {
		if e != api.OK {
			return e
		}
	}
	return api.OK
}

// mustFail checks Decode and Transcode of a value that is at fault.
func mustFail(t *testing.T, kind int, value string, at int, fault api.Errno) {
	t.Helper()
	mustDecode(t, kind, value, nil, at, fault)
	mustTranscode(t, kind, 99, value, "", at, fault)
	mustTranscode(t, kind, api.Numeric, value, "", at, fault)
	mustDecode(t, 11, value, nil, 0, api.ErrKind)
	mustTranscode(t, 11, kind, value, "", 0, api.ErrKind)
}

// P19.1, R4: with any faults at once, the first one in the order of the chapter is told.
func TestOrderOfFaults(t *testing.T) {
	contents := badContents()
	for _, kind := range kinds {
		contents = append(contents, badContent{kind, "", 0, api.OK})
		content, _ := ones(kind, 8)
		contents = append(contents, badContent{kind, content, 0, api.OK})
	}
	for _, x := range contents {
		for _, begin := range identifiers(x.kind) {
			mustFail(t, x.kind, begin.bytes, 0, firstFault(begin.head, api.ErrShort))
			for _, behind := range []string{"", "\x00", short(x.kind, x.content)} {
				trailing := api.Errno(api.OK)
				if behind != "" {
					trailing = api.ErrTrailing
				}
				for _, n := range lengths(x.content, behind) {
					value := begin.bytes + n.bytes + x.content + behind
					outside := firstFault(begin.head, n.fault, begin.tag, begin.form, trailing)
					switch {
					case outside != api.OK:
						mustFail(t, x.kind, value, 0, outside)
					case x.fault != api.OK:
						mustFail(t, x.kind, value, x.at, x.fault)
					default:
						mustTranscode(t, x.kind, x.kind, value, value, 0, api.OK)
						mustTranscode(t, x.kind, 99, value, "", 0, api.ErrKind)
					}
				}
			}
		}
	}
}

// P19.1: single faults of each place, with literal values.
func TestFaultsOfValues(t *testing.T) {
	for _, x := range []struct {
		value string
		fault api.Errno
	}{
		{"", api.ErrShort}, {"\x13", api.ErrShort}, {"\x13\x81", api.ErrShort}, {"\x13\x01", api.ErrShort}, {"\x13\x02a", api.ErrShort},
		{"\x13\x80", api.ErrLength}, {"\x13\x81\x01a", api.ErrLength}, {"\x13\x82\x00\x01a", api.ErrLength},
		{"\x1F\x13\x01a", api.ErrTag}, {"\x1F\x80", api.ErrTag}, {"\x12\x011", api.ErrTag}, {"\x93\x01a", api.ErrTag}, {"\x53\x01a", api.ErrTag}, {"\xD3\x01a", api.ErrTag}, {"\xB3\x01a", api.ErrTag},
		{"\x33\x01a", api.ErrForm}, {"\x33\x00", api.ErrForm}, {"\x33\x03\x13\x01a", api.ErrForm},
		{"\x13\x01aa", api.ErrTrailing}, {"\x13\x00\x00", api.ErrTrailing}, {"\x13\x01*\x00", api.ErrTrailing},
	} {
		mustFail(t, api.Printable, x.value, 0, x.fault)
	}
}

// form is a text as a string of each kind that has it, and the index of the first scalar that each of the others does not have.
type form struct {
	text     string
	contents map[int]string
	missing  map[int]int
}

// forms returns texts that more or fewer of the kinds have.
func forms() []form {
	return []form{
		{"", map[int]string{api.Utf8: "", api.Numeric: "", api.Printable: "", api.Teletex: "", api.Ia5: "", api.Visible: "", api.Universal: "", api.Bmp: ""}, nil},
		{"1 2", map[int]string{api.Utf8: "1 2", api.Numeric: "1 2", api.Printable: "1 2", api.Teletex: "1 2", api.Ia5: "1 2", api.Visible: "1 2", api.Universal: "\x00\x00\x001\x00\x00\x00 \x00\x00\x002", api.Bmp: "\x001\x00 \x002"}, nil},
		{"1=a", map[int]string{api.Utf8: "1=a", api.Printable: "1=a", api.Teletex: "1=a", api.Ia5: "1=a", api.Visible: "1=a", api.Universal: "\x00\x00\x001\x00\x00\x00=\x00\x00\x00a", api.Bmp: "\x001\x00=\x00a"}, map[int]int{api.Numeric: 1}},
		{"a$", map[int]string{api.Utf8: "a$", api.Teletex: "a\xA4", api.Ia5: "a$", api.Visible: "a$", api.Universal: "\x00\x00\x00a\x00\x00\x00$", api.Bmp: "\x00a\x00$"}, map[int]int{api.Numeric: 0, api.Printable: 1}},
		{"1a\n", map[int]string{api.Utf8: "1a\n", api.Teletex: "1a\n", api.Ia5: "1a\n", api.Universal: "\x00\x00\x001\x00\x00\x00a\x00\x00\x00\n", api.Bmp: "\x001\x00a\x00\n"}, map[int]int{api.Numeric: 1, api.Printable: 2, api.Visible: 2}},
		{"~\x00", map[int]string{api.Utf8: "~\x00", api.Ia5: "~\x00", api.Universal: "\x00\x00\x00~\x00\x00\x00\x00", api.Bmp: "\x00~\x00\x00"}, map[int]int{api.Numeric: 0, api.Printable: 0, api.Teletex: 1, api.Visible: 1}},
		{"11éα", map[int]string{api.Utf8: "11\xC3\xA9\xCE\xB1", api.Teletex: "11\xC2e\x1B\x28Fa", api.Universal: "\x00\x00\x001\x00\x00\x001\x00\x00\x00\xE9\x00\x00\x03\xB1", api.Bmp: "\x001\x001\x00\xE9\x03\xB1"}, map[int]int{api.Numeric: 2, api.Printable: 2, api.Ia5: 2, api.Visible: 2}},
		{"1水", map[int]string{api.Utf8: "1\xE6\xB0\xB4", api.Universal: "\x00\x00\x001\x00\x00\x6C\x34", api.Bmp: "\x001\x6C\x34"}, map[int]int{api.Numeric: 1, api.Printable: 1, api.Teletex: 1, api.Ia5: 1, api.Visible: 1}},
		{"12é😀", map[int]string{api.Utf8: "12\xC3\xA9\xF0\x9F\x98\x80", api.Universal: "\x00\x00\x001\x00\x00\x002\x00\x00\x00\xE9\x00\x01\xF6\x00"}, map[int]int{api.Numeric: 2, api.Printable: 2, api.Teletex: 3, api.Ia5: 2, api.Visible: 2, api.Bmp: 3}},
	}
}

// P19.1: each text from each kind that has it to each of the eight, with the index of the scalar that the other kind does not have.
func TestTranscode(t *testing.T) {
	for _, x := range forms() {
		for from, content := range x.contents {
			value := short(from, content)
			mustDecode(t, from, value, scalars(x.text), 0, api.OK)
			for _, to := range kinds {
				if other, known := x.contents[to]; known {
					mustTranscode(t, from, to, value, short(to, other), 0, api.OK)
				} else {
					mustTranscode(t, from, to, value, "", x.missing[to], api.ErrNot)
				}
			}
			for _, to := range []int{math.MinInt, -1, 0, 11, 13, 17, 21, 23, 27, 29, 31, 1<<32 + api.Utf8, math.MaxInt} {
				mustTranscode(t, from, to, value, "", 0, api.ErrKind)
			}
		}
		if len(x.contents)+len(x.missing) != len(kinds) {
			t.Errorf("%q has %d and %d kinds", x.text, len(x.contents), len(x.missing))
		}
	}
}

// P19.1, T1: a Teletex string that is not in the normal form becomes it, whatever it was.
func TestTranscodeTeletex(t *testing.T) {
	for _, x := range []struct{ content, normal, text string }{
		{"\x1B\x28Ba$", "a\xA4", "a$"},
		{"\x0Fa\x0F", "a", "a"},
		{"\xA8", "\x24", "¤"},
		{"\xC1\x1B\x28BA", "\xC1A", "À"},
		{"a\x1B\x28F", "a", "a"},
		{"\x0F", "", ""},
	} {
		value, normal := short(api.Teletex, x.content), short(api.Teletex, x.normal)
		mustDecode(t, api.Teletex, value, scalars(x.text), 0, api.OK)
		mustEncode(t, api.Teletex, scalars(x.text), normal, 0, api.OK)
		for _, b := range []string{value, normal} {
			mustTranscode(t, api.Teletex, api.Teletex, b, normal, 0, api.OK)
			mustTranscode(t, api.Teletex, api.Utf8, b, short(api.Utf8, x.text), 0, api.OK)
		}
		mustTranscode(t, api.Utf8, api.Teletex, short(api.Utf8, x.text), normal, 0, api.OK)
	}
}

// P19.1: contents that become longer, over each border of the length, and a fault far behind.
func TestTranscodeLong(t *testing.T) {
	for _, n := range []int{31, 32, 63, 64, 127, 128, 255, 256, 1 << 14, 1 << 16, 1 << 20} {
		text := strings.Repeat("1", n)
		small, _, e := str.Encode(api.Numeric, scalars(text))
		if e != api.OK {
			t.Fatalf("Encode of %d digits: %d", n, e)
		}
		great, at, e := str.Transcode(api.Numeric, api.Universal, small)
		want, _, _ := str.Encode(api.Universal, scalars(text))
		if !bytes.Equal(great, want) || at != 0 || e != api.OK {
			t.Errorf("Transcode of %d digits has %d bytes, %d, %d", n, len(great), at, e)
		}
		back, at, e := str.Transcode(api.Universal, api.Numeric, great)
		if !bytes.Equal(back, small) || at != 0 || e != api.OK {
			t.Errorf("Transcode of %d digits and back has %d bytes, %d, %d", n, len(back), at, e)
		}
		odd, _, _ := str.Encode(api.Utf8, scalars(text+"é*"))
		if b, at, e := str.Transcode(api.Utf8, api.Ia5, odd); len(b) != 0 || at != n || e != api.ErrNot {
			t.Errorf("Transcode of %d digits and é has %d bytes, %d, %d", n, len(b), at, e)
		}
	}
}
