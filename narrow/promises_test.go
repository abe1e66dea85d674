package narrow_test

import (
	"bytes"
	"slices"
	"strings"
	"testing"

	"sobriquet/api"
	"sobriquet/narrow"
)

// charactersOf returns the characters of the kind, as the chapter lists them.
func charactersOf(kind int) string {
	var visible, all strings.Builder
	for c := range 0x80 {
		all.WriteByte(byte(c))
		if 0x20 <= c && c != 0x7F {
			visible.WriteByte(byte(c))
		}
	}
	return map[int]string{
		api.Numeric:   "0123456789 ",
		api.Printable: "ABCDEFGHIJKLMNOPQRSTUVWXYZ" + "abcdefghijklmnopqrstuvwxyz" + "0123456789" + " " + "'()+,-./:=?",
		api.Ia5:       all.String(),
		api.Visible:   visible.String(),
	}[kind]
}

// isCharacter tells whether c is among the characters of the kind.
func isCharacter(characters string, c int) bool {
	return 0 <= c && c < 0x100 && strings.IndexByte(characters, byte(c)) >= 0
}

// mustCode checks Has and Put of s against the characters of the kind, and that Get returns what Put was given.
func mustCode(t *testing.T, kind int, characters string, s []int) {
	t.Helper()
	var want []byte
	index, fault := 0, api.Errno(api.OK)
	for i, c := range s {
		if !isCharacter(characters, c) {
			want, index, fault = nil, i, api.ErrNot
			break
		}
		want = append(want, byte(c))
	}
	b, at, e := narrow.Put(kind, s)
	if !bytes.Equal(b, want) || at != index || e != fault {
		t.Fatalf("Put(%d, %#x) = % X, %d, %d; want % X, %d, %d", kind, s, b, at, e, want, index, fault)
	}
	if e != api.OK {
		return
	}
	if got, at, e := narrow.Get(kind, b); !slices.Equal(got, s) || at != 0 || e != api.OK {
		t.Fatalf("Get(%d, Put(%#x)) = %#x, %d, %d", kind, s, got, at, e)
	}
}

// mustDecode checks Get of b against the characters of the kind, and that Put returns what Get was given.
func mustDecode(t *testing.T, kind int, characters string, b []byte) {
	t.Helper()
	var want []int
	offset, fault := 0, api.Errno(api.OK)
	for i, x := range b {
		if !isCharacter(characters, int(x)) {
			want, offset, fault = nil, i, api.ErrRepertoire
			break
		}
		want = append(want, int(x))
	}
	s, at, e := narrow.Get(kind, b)
	if !slices.Equal(s, want) || at != offset || e != fault {
		t.Fatalf("Get(%d, % X) = %#x, %d, %d; want %#x, %d, %d", kind, b, s, at, e, want, offset, fault)
	}
	if e != api.OK {
		return
	}
	if got, at, e := narrow.Put(kind, s); !bytes.Equal(got, b) || at != 0 || e != api.OK {
		t.Fatalf("Put(%d, Get(% X)) = % X, %d, %d", kind, b, got, at, e)
	}
}

// P15.1: how many characters each kind has.
func TestCountsOfCharacters(t *testing.T) {
	for kind, want := range map[int]int{api.Numeric: 11, api.Printable: 74, api.Ia5: 128, api.Visible: 95} {
		count := 0
		for c := -0x1000; c <= api.MaxScalar+0x1000; c++ {
			if narrow.Has(kind, c) {
				count++
			}
		}
		if count != want {
			t.Errorf("kind %d has %d characters; want %d", kind, count, want)
		}
	}
}

// P15.1, P15.2: every number up to some above MaxScalar, and some below 0, alone and behind a character.
func TestEveryNumber(t *testing.T) {
	for _, kind := range narrowKinds {
		characters := charactersOf(kind)
		for c := -0x300; c <= api.MaxScalar+0x300; c++ {
			if got := narrow.Has(kind, c); got != isCharacter(characters, c) {
				t.Fatalf("Has(%d, %#x) = %t", kind, c, got)
			}
			mustCode(t, kind, characters, []int{c})
			mustCode(t, kind, characters, []int{0x30, c, 0x20})
		}
	}
}

// P15.1, P15.2: all strings of one and of two bytes.
func TestEveryByte(t *testing.T) {
	for _, kind := range narrowKinds {
		characters := charactersOf(kind)
		for i := range 0x100 {
			mustDecode(t, kind, characters, []byte{byte(i)})
		}
		for i := range 0x10000 {
			mustDecode(t, kind, characters, []byte{byte(i >> 8), byte(i)})
		}
	}
}

// P15.2: all characters of each kind in one string.
func TestAllCharactersInOneString(t *testing.T) {
	for _, kind := range narrowKinds {
		characters := charactersOf(kind)
		mustCode(t, kind, characters, scalars(characters))
		mustDecode(t, kind, characters, []byte(characters))
		mustBoth(t, kind, characters)
		mustNeither(t, kind, characters+"\x80"+characters, len(characters))
	}
}

// eachList calls f with every list of items of the alphabet that begins with l and fills its capacity.
func eachList[T any](alphabet, l []T, f func([]T)) {
	if len(l) == cap(l) {
		f(l)
		return
	}
	for _, x := range alphabet {
		eachList(alphabet, append(l, x), f)
	}
}

// P15.1, P15.2: all short lists and strings of some numbers and bytes.
func TestShortLists(t *testing.T) {
	numbers := []int{-1, 0, 0x20, 0x2A, 0x30, 0x41, 0x7E, 0x7F, 0x80, 0x130, 1<<32 + 0x30}
	few := []byte{0x00, 0x20, 0x2A, 0x30, 0x41, 0x7E, 0x7F, 0x80, 0xB0, 0xFF}
	for _, kind := range narrowKinds {
		characters := charactersOf(kind)
		for length := range 5 {
			eachList(numbers, make([]int, 0, length), func(s []int) { mustCode(t, kind, characters, s) })
			eachList(few, make([]byte, 0, length), func(b []byte) { mustDecode(t, kind, characters, b) })
		}
	}
}

// choice returns a function that returns numbers below the given one in no order, the same ones each time.
func choice() func(below int) int {
	state := uint64(1)
	return func(below int) int {
		state = state*6364136223846793005 + 1442695040888963407
		return int(state>>33) % below
	}
}

// mixed returns count of the characters in no order.
func mixed(characters string, count int) []byte {
	next := choice()
	b := make([]byte, count)
	for i := range b {
		b[i] = characters[next(len(characters))]
	}
	return b
}

// P15.1, P15.2: strings of many lengths, and the same ones with one byte or number changed.
func TestMixedStrings(t *testing.T) {
	next := choice()
	for _, kind := range narrowKinds {
		characters := charactersOf(kind)
		b := mixed(characters, 20000)
		for from, count := 0, 1; from+count <= len(b); from, count = from+count, (count+7)%100+1 {
			part := bytes.Clone(b[from : from+count])
			s := scalars(string(part))
			mustCode(t, kind, characters, s)
			mustDecode(t, kind, characters, part)
			at := next(count)
			part[at] ^= 1 << next(8)
			mustDecode(t, kind, characters, part)
			s[at] ^= 1 << next(64)
			mustCode(t, kind, characters, s)
		}
	}
}

// P15.1, R1: long lists, right to the end and with a fault there.
func TestLongLists(t *testing.T) {
	for _, kind := range narrowKinds {
		b := mixed(charactersOf(kind), 1<<20)
		s := scalars(string(b))
		if got, at, e := narrow.Put(kind, s); !bytes.Equal(got, b) || at != 0 || e != api.OK {
			t.Errorf("Put(%d, %d characters) has %d bytes, %d, %d", kind, len(s), len(got), at, e)
		}
		if got, at, e := narrow.Get(kind, b); !slices.Equal(got, s) || at != 0 || e != api.OK {
			t.Errorf("Get(%d, %d bytes) has %d characters, %d, %d", kind, len(b), len(got), at, e)
		}
		if got, at, e := narrow.Put(kind, append(s, 0x100)); len(got) != 0 || at != len(s) || e != api.ErrNot {
			t.Errorf("Put has %d bytes, %d, %d; want %d and ErrNot", len(got), at, e, len(s))
		}
		if got, at, e := narrow.Get(kind, append(b, 0x80)); len(got) != 0 || at != len(b) || e != api.ErrRepertoire {
			t.Errorf("Get has %d characters, %d, %d; want %d and ErrRepertoire", len(got), at, e, len(b))
		}
	}
}
