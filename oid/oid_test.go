package oid_test

import (
	"bytes"
	"slices"
	"strings"
	"testing"

	"sobriquet/api"
	"sobriquet/oid"
)

// trio is an identifier, its content and its text.
type trio struct {
	list    []int
	content []byte
	text    string
}

// trios are identifiers at both sides of each border, and ordinary ones.
func trios() []trio {
	most := []byte{0xFF, 0xFF, 0xFF, 0xFF, 0xFF, 0xFF, 0xFF, 0xFF, 0x7F}
	return []trio{
		{[]int{2, 5, 4, 3}, []byte{0x55, 0x04, 0x03}, "2.5.4.3"},
		{[]int{1, 2, 840, 113549, 1, 9, 1}, []byte{0x2A, 0x86, 0x48, 0x86, 0xF7, 0x0D, 0x01, 0x09, 0x01}, "1.2.840.113549.1.9.1"},
		{[]int{0, 9, 2342, 19200300, 100, 1, 25}, []byte{0x09, 0x92, 0x26, 0x89, 0x93, 0xF2, 0x2C, 0x64, 0x01, 0x19}, "0.9.2342.19200300.100.1.25"},
		{[]int{0, 0}, []byte{0x00}, "0.0"},
		{[]int{0, 39}, []byte{0x27}, "0.39"},
		{[]int{1, 0}, []byte{0x28}, "1.0"},
		{[]int{1, 39}, []byte{0x4F}, "1.39"},
		{[]int{2, 0}, []byte{0x50}, "2.0"},
		{[]int{2, 39}, []byte{0x77}, "2.39"},
		{[]int{2, 40}, []byte{0x78}, "2.40"},
		{[]int{2, 47}, []byte{0x7F}, "2.47"},
		{[]int{2, 48}, []byte{0x81, 0x00}, "2.48"},
		{[]int{2, 999, 3}, []byte{0x88, 0x37, 0x03}, "2.999.3"},
		{[]int{2, 1<<14 - 81}, []byte{0xFF, 0x7F}, "2.16303"},
		{[]int{2, 1<<14 - 80}, []byte{0x81, 0x80, 0x00}, "2.16304"},
		{[]int{0, 0, 0}, []byte{0x00, 0x00}, "0.0.0"},
		{[]int{0, 0, 0, 10, 0, 100}, []byte{0x00, 0x00, 0x0A, 0x00, 0x64}, "0.0.0.10.0.100"},
		{[]int{1, 2, 127, 128}, []byte{0x2A, 0x7F, 0x81, 0x00}, "1.2.127.128"},
		{[]int{1, 2, 255, 256}, []byte{0x2A, 0x81, 0x7F, 0x82, 0x00}, "1.2.255.256"},
		{[]int{1, 2, 1<<14 - 1, 1 << 14}, []byte{0x2A, 0xFF, 0x7F, 0x81, 0x80, 0x00}, "1.2.16383.16384"},
		{[]int{1, 2, 1 << 31, 1<<32 - 1}, []byte{0x2A, 0x88, 0x80, 0x80, 0x80, 0x00, 0x8F, 0xFF, 0xFF, 0xFF, 0x7F}, "1.2.2147483648.4294967295"},
		{[]int{1, 2, 1<<56 - 1}, []byte{0x2A, 0xFF, 0xFF, 0xFF, 0xFF, 0xFF, 0xFF, 0xFF, 0x7F}, "1.2.72057594037927935"},
		{[]int{1, 2, 1 << 56}, []byte{0x2A, 0x81, 0x80, 0x80, 0x80, 0x80, 0x80, 0x80, 0x80, 0x00}, "1.2.72057594037927936"},
		{[]int{1, 2, api.MaxNum - 1}, []byte{0x2A, 0xFF, 0xFF, 0xFF, 0xFF, 0xFF, 0xFF, 0xFF, 0xFF, 0x7E}, "1.2.9223372036854775806"},
		{[]int{1, 2, api.MaxNum, 7}, slices.Concat([]byte{0x2A}, most, []byte{0x07}), "1.2.9223372036854775807.7"},
		{[]int{2, api.MaxNum - 81}, []byte{0xFF, 0xFF, 0xFF, 0xFF, 0xFF, 0xFF, 0xFF, 0xFF, 0x7E}, "2.9223372036854775726"},
		{[]int{2, api.MaxNum - 80}, most, "2.9223372036854775727"},
		{[]int{2, api.MaxNum - 80, api.MaxNum}, slices.Concat(most, most), "2.9223372036854775727.9223372036854775807"},
		long(api.MaxArcs-1, 1, []byte{0x01}, "1"),
		long(api.MaxArcs, 0, []byte{0x00}, "0"),
		long(api.MaxArcs, 300, []byte{0x82, 0x2C}, "300"),
		long(api.MaxArcs, api.MaxNum, most, "9223372036854775807"),
	}
}

// long is an identifier of so many numbers, all the same from the third one on; its content and its text follow.
func long(arcs, number int, content []byte, text string) trio {
	rest := arcs - 2
	return trio{
		append([]int{2, 5}, slices.Repeat([]int{number}, rest)...),
		append([]byte{0x55}, bytes.Repeat(content, rest)...),
		"2.5" + strings.Repeat("."+text, rest),
	}
}

// P3.1: each of the five calls, for valid identifiers.
func TestIdentifiers(t *testing.T) {
	for _, c := range trios() {
		if e := oid.Check(c.list); e != api.OK {
			t.Errorf("Check(%v) = %d; want no error", c.list, e)
		}
		if b, e := oid.Content(c.list); !bytes.Equal(b, c.content) || e != api.OK {
			t.Errorf("Content(%v) = % X, %d; want % X", c.list, b, e, c.content)
		}
		if s, e := oid.Text(c.list); s != c.text || e != api.OK {
			t.Errorf("Text(%v) = %q, %d; want %q", c.list, s, e, c.text)
		}
		mustRead(t, c.content, c.list)
		mustParse(t, c.text, c.list)
	}
}

func mustRead(t *testing.T, b []byte, want []int) {
	t.Helper()
	if l, e := oid.Read(b); !slices.Equal(l, want) || e != api.OK {
		t.Errorf("Read(% X) = %v, %d; want %v", b, l, e, want)
	}
}

func mustParse(t *testing.T, s string, want []int) {
	t.Helper()
	if l, e := oid.Parse(s); !slices.Equal(l, want) || e != api.OK {
		t.Errorf("Parse(%q) = %v, %d; want %v", s, l, e, want)
	}
}

// P3.1: lists that are no identifiers; beside the error there is nothing (R4).
func TestInvalidLists(t *testing.T) {
	least := -1 << 63
	full := long(api.MaxArcs, 0, nil, "").list
	for _, l := range [][]int{
		nil, {}, {0}, {1}, {2}, {2 << 32},
		{3, 0}, {3, 5, 4, 3}, {40, 0}, {api.MaxNum, 0}, {api.MaxNum, api.MaxNum},
		{-1, 0}, {-1, 5, 4}, {least, 0}, {least, least},
		{0, 40}, {1, 40}, {0, 41, 1}, {1, 128}, {0, api.MaxNum - 80}, {0, api.MaxNum}, {1, api.MaxNum},
		{0, -1}, {1, -1}, {1, -40}, {2, -1}, {2, -80}, {2, least}, {0, least},
		{2, api.MaxNum - 79}, {2, api.MaxNum - 40}, {2, api.MaxNum}, {2, api.MaxNum - 79, 1},
		{2, 0, -1}, {2, 0, least}, {2, 0, 1, 2, -3, 4}, {2, 5, -128}, {1, 2, 3, -1 << 32},
		append(slices.Clone(full[1:]), 0),
		append(slices.Clone(full[:api.MaxArcs-1]), -1),
		append(slices.Clone(full), 0),
		append(slices.Clone(full), full...),
	} {
		mustRejectList(t, l)
	}
}

func mustRejectList(t *testing.T, l []int) {
	t.Helper()
	told := l[:min(len(l), 100)]
	if e := oid.Check(l); e != api.ErrOid {
		t.Errorf("Check(%v) = %d; want ErrOid", told, e)
	}
	if b, e := oid.Content(l); len(b) != 0 || e != api.ErrOid {
		t.Errorf("Content(%v) = % X, %d; want ErrOid", told, b, e)
	}
	if s, e := oid.Text(l); s != "" || e != api.ErrOid {
		t.Errorf("Text(%v) = %q, %d; want ErrOid", told, s, e)
	}
}

// P3.1: byte strings that are no contents; beside the error there is nothing (R4).
func TestInvalidContents(t *testing.T) {
	eight := bytes.Repeat([]byte{0x80}, 8)
	full := long(api.MaxArcs, 0, []byte{0x00}, "").content
	for _, b := range [][]byte{
		nil, {},
		// Not as short as they may be.
		{0x80}, {0x80, 0x00}, {0x80, 0x01}, {0x80, 0x55}, {0x80, 0x80, 0x01}, {0x80, 0x81, 0x00},
		{0x55, 0x80, 0x04}, {0x55, 0x80}, {0x55, 0x04, 0x80, 0x03}, {0x55, 0x80, 0x81, 0x00}, {0x55, 0x80, 0x00},
		// They end too soon.
		{0x81}, {0xFF}, {0x81, 0x80}, {0x55, 0x81}, {0x55, 0x04, 0x81, 0xFF}, {0x55, 0x04, 0x81},
		// Numbers above MaxNum, of ten bytes and of more.
		slices.Concat([]byte{0x81}, eight, []byte{0x00}),
		slices.Concat([]byte{0x55, 0x81}, eight, []byte{0x00}),
		slices.Concat([]byte{0x55, 0x81}, eight, eight, []byte{0x00}),
		slices.Concat([]byte{0x55, 0x82}, eight, []byte{0x00, 0x01}),
		slices.Concat(bytes.Repeat([]byte{0xFF}, 9), []byte{0x7F}),
		slices.Concat([]byte{0x55}, bytes.Repeat([]byte{0xFF}, 9), []byte{0x7F, 0x01}),
		slices.Concat([]byte{0x55, 0x01}, bytes.Repeat([]byte{0xFF}, 18), []byte{0x7F}),
		// More numbers than MaxArcs.
		append(bytes.Clone(full), 0x00),
		append(bytes.Clone(full), 0x81, 0x00),
		bytes.Repeat(full, 2),
		make([]byte, api.MaxArcs),
	} {
		mustRejectContent(t, b)
	}
}

func mustRejectContent(t *testing.T, b []byte) {
	t.Helper()
	if l, e := oid.Read(b); len(l) != 0 || e != api.ErrOid {
		t.Errorf("Read(% X) = %v, %d; want ErrOid", b[:min(len(b), 100)], l, e)
	}
}

// P3.1: a content that ends within a number is rejected, and one that ends after a number is that of fewer numbers.
func TestContentsThatEndTooSoon(t *testing.T) {
	for _, c := range trios() {
		arcs := 1
		for i := range c.content {
			if i > 0 && c.content[i-1] < 0x80 {
				arcs++
			}
			// The spare capacity holds what is missing, and is not to be read (R6).
			if b := c.content[:i]; i > 0 && c.content[i-1] < 0x80 {
				mustRead(t, b, c.list[:arcs])
			} else {
				mustRejectContent(t, b)
			}
		}
	}
}

// P3.1: a number with a byte more than it needs is rejected, wherever it stands.
func TestContentsThatAreTooLong(t *testing.T) {
	for _, c := range trios() {
		for i := range c.content {
			if i == 0 || c.content[i-1] < 0x80 {
				mustRejectContent(t, slices.Insert(bytes.Clone(c.content), i, 0x80))
				mustRejectContent(t, slices.Insert(bytes.Clone(c.content), i, 0x80, 0x80))
			}
		}
	}
}

// P3.1: texts of no identifier; beside the error there is nothing (R4).
func TestInvalidTexts(t *testing.T) {
	for _, s := range []string{
		"", ".", "..", "2", "0", "2.", ".5", "2..5", ".2.5", "2.5.", "2.5..4", "2.5.4.", "..2.5",
		// Leading zeros.
		"02.5", "00.5", "2.05", "2.00", "2.5.04", "2.5.00", "2.5.000000000000000000001",
		// Signs, spaces, other digits and other marks.
		"+2.5", "2.+5", "2.-5", "-0.5", "2.-0", "2.5.-1", " 2.5", "2.5 ", "2 .5", "2. 5", "2.5\n", "2.5\x00", "\x002.5", "2.5.4 3",
		"2,5", "2-5", "2/5", "2:5", "25", "2.5/", "2.5:", "2.5e1", "2.0x5", "2.0b1", "2.0o7", "2.1_0", "2.a", "a.5", "2.5.A", "2.5,4", "oid.2.5", "OID.2.5",
		"2.٣", "2.５", "２.5", "2．5", "2.5\u00B2", "2.\xB5", "2.5\xFF", "\uFEFF2.5",
		// Numbers that are too great.
		"3.0", "3.5.4.3", "10.0", "4294967298.5", "18446744073709551618.5", "0.40", "1.40", "1.100", "0.9223372036854775807", "1.4294967296", "1.18446744073709551616",
		"2.9223372036854775728", "2.9223372036854775807", "2.9223372036854775808", "2.18446744073709551616", "2.5.9223372036854775808", "2.5.9223372036854775810", "2.5.9999999999999999999",
		"2.5.18446744073709551615", "2.5.18446744073709551616", "2.5.18446744073709551620", "2.5.92233720368547758070", "2.5.92233720368547758080", "2.5.92233720368547758093", "2.92233720368547758081", "2.5.340282366920938463463374607431768211457",
		"2.5" + strings.Repeat(".0", api.MaxArcs-1), "2.5" + strings.Repeat(".0", api.MaxArcs-2) + ".",
		"2.5" + strings.Repeat(".0", api.MaxArcs-3) + ".00", "2.5" + strings.Repeat(".1", 5*api.MaxArcs),
	} {
		mustRejectText(t, s)
	}
}

func mustRejectText(t *testing.T, s string) {
	t.Helper()
	if l, e := oid.Parse(s); len(l) != 0 || e != api.ErrOid {
		t.Errorf("Parse(%q) = %v, %d; want ErrOid", s[:min(len(s), 100)], l, e)
	}
}

// P3.1: a text with a zero, a point or a sign too much is rejected, wherever it stands.
func TestTextsThatAreTooLong(t *testing.T) {
	for _, c := range trios() {
		for i := range len(c.text) + 1 {
			if i == 0 || c.text[i-1] == '.' {
				for _, more := range []string{"0", "00", "+", "-", " ", "."} {
					mustRejectText(t, c.text[:i]+more+c.text[i:])
				}
			}
			if i == len(c.text) || c.text[i] == '.' {
				for _, more := range []string{" ", ".", "x"} {
					mustRejectText(t, c.text[:i]+more+c.text[i:])
				}
			}
		}
	}
}
