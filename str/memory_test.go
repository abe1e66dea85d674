package str_test

import (
	"bytes"
	"slices"
	"sync"
	"testing"

	"sobriquet/api"
	"sobriquet/str"
)

// fill sets all of l, its spare capacity too, to x.
func fill[T any](l []T, x T) {
	for i := range l[:cap(l)] {
		l[:cap(l)][i] = x
	}
}

// P19.1, R2: no scalars and no bytes, nil or not.
func TestNothing(t *testing.T) {
	for _, kind := range kinds {
		value := []byte{byte(kind), 0}
		for _, s := range [][]int{nil, {}, make([]int, 0, 8)} {
			if b, at, e := str.Put(kind, s); len(b) != 0 || at != 0 || e != api.OK {
				t.Errorf("Put(%d, none) = % X, %d, %d", kind, b, at, e)
			}
			if b, at, e := str.Encode(kind, s); !bytes.Equal(b, value) || at != 0 || e != api.OK {
				t.Errorf("Encode(%d, none) = % X, %d, %d", kind, b, at, e)
			}
		}
		for _, b := range [][]byte{nil, {}, make([]byte, 0, 8)} {
			if s, at, e := str.Get(kind, b); len(s) != 0 || at != 0 || e != api.OK {
				t.Errorf("Get(%d, none) = %#x, %d, %d", kind, s, at, e)
			}
			if s, at, e := str.Decode(kind, b); len(s) != 0 || at != 0 || e != api.ErrShort {
				t.Errorf("Decode(%d, none) = %#x, %d, %d", kind, s, at, e)
			}
			if out, at, e := str.Transcode(kind, kind, b); len(out) != 0 || at != 0 || e != api.ErrShort {
				t.Errorf("Transcode(%d, %d, none) = % X, %d, %d", kind, kind, out, at, e)
			}
		}
	}
}

// writers are the calls that return bytes for scalars.
func writers() []func(int, []int) ([]byte, int, api.Errno) {
	return []func(int, []int) ([]byte, int, api.Errno){str.Put, str.Encode}
}

// reader is a call that returns scalars for bytes, with the bytes that it is given here.
type reader struct {
	read  func(int, []byte) ([]int, int, api.Errno)
	given string
}

// readers are the calls that return scalars for bytes.
func readers(kind int, content string) []reader {
	return []reader{{str.Get, content}, {str.Decode, encoded(kind, content)}}
}

// P19.1, R2: bytes that are changed afterwards, their spare capacity too, change no others, and the scalars stay.
func TestBytesAreNewMemory(t *testing.T) {
	for _, x := range samples() {
		for _, write := range writers() {
			n := len(scalars(x.text))
			whole := append(scalars(x.text), '1', -1, 'x')
			kept := slices.Clone(whole)
			first, _, _ := write(x.kind, whole[:n])
			second, _, e := write(x.kind, whole[:n])
			want := bytes.Clone(second)
			fill(first, 0xEE)
			if !bytes.Equal(second, want) || !slices.Equal(whole, kept) || e != api.OK {
				t.Errorf("%q as %d: results share memory, or the argument is now %#x", x.text, x.kind, whole)
			}
			fill(whole, -1)
			third, _, _ := write(x.kind, kept[:n])
			if !bytes.Equal(second, want) || !bytes.Equal(third, want) {
				t.Errorf("%q as %d: % X was % X", x.text, x.kind, second, want)
			}
		}
	}
}

// P19.1, R2: scalars that are changed afterwards, their spare capacity too, change no others, and the bytes stay.
func TestScalarsAreNewMemory(t *testing.T) {
	for _, x := range samples() {
		for _, r := range readers(x.kind, x.content) {
			n, want := len(r.given), scalars(x.text)
			whole := append([]byte(r.given), 0x31, 0x80, 0x00)
			kept := bytes.Clone(whole)
			first, _, _ := r.read(x.kind, whole[:n])
			second, _, e := r.read(x.kind, whole[:n])
			fill(first, -1)
			if !slices.Equal(second, want) || !bytes.Equal(whole, kept) || e != api.OK {
				t.Errorf("% X as %d: results share memory, or the argument is now % X", r.given, x.kind, whole)
			}
			fill(whole, 0xEE)
			third, _, _ := r.read(x.kind, kept[:n])
			if !slices.Equal(second, want) || !slices.Equal(third, want) {
				t.Errorf("% X as %d: %#x was %#x", r.given, x.kind, second, want)
			}
		}
	}
}

// P19.1, R2: what Transcode returns is new memory too, also where the kind stays the same.
func TestTranscodedIsNewMemory(t *testing.T) {
	for _, x := range samples() {
		for _, to := range []int{x.kind, api.Utf8, api.Universal} {
			value := encoded(x.kind, x.content)
			whole := append([]byte(value), 0x31, 0x80, 0x00)
			kept := bytes.Clone(whole)
			first, _, _ := str.Transcode(x.kind, to, whole[:len(value)])
			second, _, e := str.Transcode(x.kind, to, whole[:len(value)])
			want := bytes.Clone(second)
			fill(first, 0xEE)
			if !bytes.Equal(second, want) || !bytes.Equal(whole, kept) || e != api.OK {
				t.Errorf("Transcode(%d, %d, % X): results share memory, or the argument is now % X", x.kind, to, value, whole)
			}
			fill(whole, 0xEE)
			if !bytes.Equal(second, want) {
				t.Errorf("Transcode(%d, %d, % X) has changed with its argument", x.kind, to, value)
			}
			mustTranscode(t, x.kind, to, value, string(want), 0, api.OK)
		}
	}
}

// P19.1, R2, R4: arguments that are rejected stay as they are, and no part of a result is returned.
func TestRejectedArgumentsStay(t *testing.T) {
	for _, kind := range append(kinds, 11) {
		for _, write := range writers() {
			s := []int{'1', ' ', -1, '1', '1'}
			kept := slices.Clone(s)
			if b, _, e := write(kind, s[:4]); len(b) != 0 || e == api.OK || !slices.Equal(s, kept) {
				t.Errorf("%#x as %d: % X, %d; the argument is now %#x", kept, kind, b, e, s)
			}
		}
		for _, r := range readers(kind, "1\xFF1\xFF\x80") {
			b := append([]byte(r.given), 0x31, 0x32)
			kept := bytes.Clone(b)
			if s, _, e := r.read(kind, b[:len(r.given)]); len(s) != 0 || e == api.OK || !bytes.Equal(b, kept) {
				t.Errorf("% X as %d: %#x, %d; the argument is now % X", kept, kind, s, e, b)
			}
			if out, _, e := str.Transcode(kind, api.Utf8, b[:len(r.given)]); len(out) != 0 || e == api.OK || !bytes.Equal(b, kept) {
				t.Errorf("% X from %d: % X, %d; the argument is now % X", kept, kind, out, e, b)
			}
		}
	}
}

// P19.1, R6: what stands behind the length is not read: it is neither at fault, nor trailing, nor does it complete a value.
func TestMemoryBehindTheLength(t *testing.T) {
	for _, x := range samples() {
		s := append(scalars(x.text), -1, 0x110000)
		if b, at, e := str.Encode(x.kind, s[:len(s)-2]); string(b) != encoded(x.kind, x.content) || at != 0 || e != api.OK {
			t.Errorf("Encode(%d, %#x) = % X, %d, %d", x.kind, s[:len(s)-2], b, at, e)
		}
		value := encoded(x.kind, x.content)
		b := append([]byte(value), 0x00, 0xFF)
		if got, at, e := str.Decode(x.kind, b[:len(value)]); !slices.Equal(got, scalars(x.text)) || at != 0 || e != api.OK {
			t.Errorf("Decode(%d, % X) = %#x, %d, %d", x.kind, value, got, at, e)
		}
		for n := range len(value) {
			if got, at, e := str.Decode(x.kind, b[:n]); len(got) != 0 || at != 0 || e != api.ErrShort {
				t.Errorf("Decode(%d, % X) = %#x, %d, %d; want ErrShort", x.kind, b[:n], got, at, e)
			}
			if out, at, e := str.Transcode(x.kind, api.Utf8, b[:n]); len(out) != 0 || at != 0 || e != api.ErrShort {
				t.Errorf("Transcode(%d, % X) = % X, %d, %d; want ErrShort", x.kind, b[:n], out, at, e)
			}
		}
	}
	if s, at, e := str.Get(api.Bmp, []byte{0, 'a', 0, 'b'}[:3]); len(s) != 0 || at != 2 || e != api.ErrBytes {
		t.Errorf("Get of three bytes = %#x, %d, %d", s, at, e)
	}
}

// R3: calls in turn and from several goroutines at once do not disturb each other.
func TestCallsAtOnce(t *testing.T) {
	var group sync.WaitGroup
	for range 8 {
		group.Go(func() {
			for range 20 {
				for _, x := range samples() {
					value := encoded(x.kind, x.content)
					mustEncode(t, x.kind, scalars(x.text), value, 0, api.OK)
					mustDecode(t, x.kind, value, scalars(x.text), 0, api.OK)
					mustTranscode(t, x.kind, api.Utf8, value, encoded(api.Utf8, x.text), 0, api.OK)
				}
				mustTranscode(t, api.Utf8, api.Numeric, "\x0C\x021a", "", 1, api.ErrNot)
				mustDecode(t, api.Teletex, "\x14\x01\xC1", nil, 0, api.ErrShort)
				mustDecode(t, api.Utf8, "\x0C\x01\xFF\x00", nil, 0, api.ErrTrailing)
			}
		})
	}
	group.Wait()
}
