package oid_test

import (
	"bytes"
	"math/big"
	"regexp"
	"slices"
	"strings"
	"testing"

	"sobriquet/api"
	"sobriquet/oid"
)

// P3.2: Read and Parse return what Content and Text were given, for numbers at both sides of each border.
func TestReadAndParseReturnWhatWasGiven(t *testing.T) {
	numbers := []int{0, 1, 9, 10, 39, 40, 47, 48, 79, 80, 99, 100, 127, 128, api.MaxNum - 81, api.MaxNum - 80, api.MaxNum - 79, api.MaxNum - 1, api.MaxNum}
	for shift := 8; shift < 63; shift++ {
		numbers = append(numbers, 1<<shift-1, 1<<shift, 1<<shift+1)
	}
	for first := range 3 {
		for _, second := range numbers {
			if first < 2 && second > 39 || second > api.MaxNum-80 {
				mustRejectList(t, []int{first, second})
				continue
			}
			mustReturn(t, []int{first, second})
			for _, third := range numbers {
				mustReturn(t, []int{first, second, third})
				mustReturn(t, []int{first, second, third, second, 0, third})
			}
		}
	}
	for arcs := 2; arcs <= api.MaxArcs; arcs++ {
		mustReturn(t, append([]int{1, 39}, numbers[len(numbers)-arcs+2:]...))
	}
}

func mustReturn(t *testing.T, l []int) {
	t.Helper()
	b, e := oid.Content(l)
	if e != api.OK {
		t.Fatalf("Content(%v): error %d", l, e)
	}
	mustRead(t, b, l)
	s, e := oid.Text(l)
	if e != api.OK {
		t.Fatalf("Text(%v): error %d", l, e)
	}
	mustParse(t, s, l)
}

// P3.1, P3.2: of many byte strings, Read accepts those that are a content, and Content restores each of them.
func TestEachContentIsThatOfOneIdentifier(t *testing.T) {
	alphabet := []byte{0x00, 0x01, 0x27, 0x28, 0x4F, 0x50, 0x7F, 0x80, 0x81, 0xFF}
	for length := range 6 {
		eachString(alphabet, make([]byte, 0, length), func(b []byte) {
			mustBeTheOne(t, b)
		})
	}
	for i := range 1 << 16 {
		mustBeTheOne(t, []byte{byte(i >> 8), byte(i)})
	}
	for length := 7; length < 11; length++ {
		for _, first := range alphabet {
			for _, final := range alphabet {
				for _, middle := range [][]byte{{0x80}, {0xFF}} {
					mustBeTheOne(t, slices.Concat([]byte{first}, bytes.Repeat(middle, length-2), []byte{final}))
				}
			}
		}
	}
}

// eachString calls f with every string of bytes of the alphabet that begins with b and fills its capacity.
func eachString(alphabet, b []byte, f func([]byte)) {
	if len(b) == cap(b) {
		f(b)
		return
	}
	for _, x := range alphabet {
		eachString(alphabet, append(b, x), f)
	}
}

func mustBeTheOne(t *testing.T, b []byte) {
	t.Helper()
	if !isContent(b) {
		mustRejectContent(t, b)
		return
	}
	l, e := oid.Read(b)
	if e != api.OK {
		t.Fatalf("Read(% X): error %d", b, e)
	}
	if got, e := oid.Content(l); !bytes.Equal(got, b) || e != api.OK {
		t.Fatalf("Read(% X) = %v, whose content is % X, error %d", b, l, got, e)
	}
}

// isContent tells by the words of the chapter whether b, which is too short for more than MaxArcs numbers, is a content.
func isContent(b []byte) bool {
	if len(b) == 0 || b[len(b)-1] >= 0x80 {
		return false
	}
	begins, n := true, big.NewInt(0)
	for _, x := range b {
		if begins && x == 0x80 {
			return false
		}
		n.Lsh(n, 7).Add(n, big.NewInt(int64(x&0x7F)))
		if n.Cmp(big.NewInt(api.MaxNum)) > 0 {
			return false
		}
		if begins = x < 0x80; begins {
			n.SetInt64(0)
		}
	}
	return true
}

// P3.1, P3.2: of many texts, Parse accepts those of identifiers, and Text restores each of them.
func TestEachTextIsThatOfOneIdentifier(t *testing.T) {
	form := regexp.MustCompile(`^([01]\.[1-3]?[0-9]|2\.(0|[1-9][0-9]*))(\.(0|[1-9][0-9]*))*$`)
	alphabet := []byte("0123456789.+- x")
	for length := range 6 {
		eachString(alphabet, make([]byte, 0, length), func(b []byte) {
			s := string(b)
			if !form.MatchString(s) {
				mustRejectText(t, s)
				return
			}
			l, e := oid.Parse(s)
			if got, f := oid.Text(l); got != s || e != api.OK || f != api.OK {
				t.Fatalf("Parse(%q) = %v, %d, whose text is %q, %d", s, l, e, got, f)
			}
		})
	}
}

// R1, R5: very long arguments, with numbers that no integer holds, end in the error.
func TestVeryLongArguments(t *testing.T) {
	const many = 1 << 22
	for _, x := range []byte{0x00, 0x01, 0x7F, 0x80, 0x81, 0xFF} {
		mustRejectContent(t, bytes.Repeat([]byte{x}, many))
		mustRejectContent(t, append(bytes.Repeat([]byte{x}, many), 0x01))
		mustRejectContent(t, append([]byte{0x55}, bytes.Repeat([]byte{x}, many)...))
	}
	for _, s := range []string{"0", "1", "9", ".", "2.", "2.5.", "99999999999999999999.", "-", "\xFF"} {
		mustRejectText(t, strings.Repeat(s, many))
		mustRejectText(t, "2.5."+strings.Repeat(s, many))
		mustRejectText(t, strings.Repeat(s, many)+"5")
	}
	mustRejectText(t, "2.5."+strings.Repeat("0", many)+"1")
	for _, n := range []int{0, 1, 2, -1, api.MaxNum} {
		mustRejectList(t, slices.Repeat([]int{n}, many))
	}
}

// R2, R6: a list stays as it is, with its spare capacity, which is not read; what is made of it is new.
func TestListsStayAsTheyAre(t *testing.T) {
	full := []int{2, 5, 4, 3, -1, 1 << 40, -7}
	l := full[:4:6]
	want := slices.Clone(full)
	if e := oid.Check(l); e != api.OK {
		t.Errorf("Check(%v) = %d", l, e)
	}
	first, _ := oid.Content(l)
	spoil(first, 0xEE)
	if b, e := oid.Content(l); !bytes.Equal(b, []byte{0x55, 0x04, 0x03}) || e != api.OK {
		t.Errorf("Content(%v) = % X, %d", l, b, e)
	}
	if s, e := oid.Text(l); s != "2.5.4.3" || e != api.OK {
		t.Errorf("Text(%v) = %q, %d", l, s, e)
	}
	if !slices.Equal(full, want) {
		t.Errorf("the list has become %v", full)
	}
}

// R2, R6: a content stays as it is, and so does its spare capacity; what Read and Parse return is new at each call.
func TestReadAndParseReturnNewMemory(t *testing.T) {
	full := []byte{0x55, 0x04, 0x03, 0x01, 0x80, 0x80}
	b, want := full[:3:5], bytes.Clone(full)
	l, _ := oid.Read(b)
	spoil(l, -1)
	mustRead(t, b, []int{2, 5, 4, 3})
	if !bytes.Equal(full, want) {
		t.Errorf("the content has become % X", full)
	}
	l, _ = oid.Parse("2.5.4.3")
	spoil(l, -1)
	mustParse(t, "2.5.4.3", []int{2, 5, 4, 3})
}

// spoil writes over a result and over its spare capacity.
func spoil[T any](l []T, with T) {
	full := l[:cap(l)]
	for i := range full {
		full[i] = with
	}
}
