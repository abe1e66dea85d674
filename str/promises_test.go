package str_test

import (
	"encoding/binary"
	"math"
	"runtime/debug"
	"slices"
	"strings"
	"sync"
	"testing"
	"unicode/utf8"

	"sobriquet/api"
	"sobriquet/str"
	"sobriquet/teletex"
	"sobriquet/tlv"
)

// TestMain lets memory be collected less often: Teletex strings make tables that nothing keeps.
func TestMain(m *testing.M) {
	debug.SetGCPercent(2000)
	m.Run()
}

// plainHas reports, by another way than the program's, whether a kind other than Teletex has c.
func plainHas(kind, c int) bool {
	scalar := 0 <= c && c <= api.MaxScalar && utf8.ValidRune(rune(c))
	switch kind {
	case api.Utf8, api.Universal:
		return scalar
	case api.Bmp:
		return scalar && c <= 0xFFFF
	case api.Numeric:
		return scalar && strings.ContainsRune("0123456789 ", rune(c))
	case api.Printable:
		return scalar && strings.ContainsRune("ABCDEFGHIJKLMNOPQRSTUVWXYZabcdefghijklmnopqrstuvwxyz0123456789 '()+,-./:=?", rune(c))
	case api.Visible:
		return scalar && c <= 0x7E && c >= 0x20
	}
	return scalar && c <= 0x7F
}

// plainPut returns what Put has to return.
func plainPut(kind int, s []int) (content string, at int, e api.Errno) {
	if kind == api.Teletex {
		b, at, e := teletex.Put(s)
		return string(b), at, e
	}
	var b []byte
	for i, c := range s {
		if !plainHas(kind, c) {
			return "", i, api.ErrNot
		}
		switch kind {
		case api.Universal:
			b = binary.BigEndian.AppendUint32(b, uint32(c))
		case api.Bmp:
			b = binary.BigEndian.AppendUint16(b, uint16(c))
		default:
			// The others, which end at 7F, have these bytes in common with Utf8.
			b = utf8.AppendRune(b, rune(c))
		}
	}
	return string(b), 0, api.OK
}

// plainGet returns what Get has to return.
func plainGet(kind int, content string) (s []int, at int, e api.Errno) {
	switch kind {
	case api.Teletex:
		return teletex.Read([]byte(content))
	case api.Utf8:
		for i, r := range content {
			if r == utf8.RuneError && !strings.HasPrefix(content[i:], string(r)) {
				return nil, i, api.ErrBytes
			}
			s = append(s, int(r))
		}
		return s, 0, api.OK
	}
	size := map[int]int{api.Bmp: 2, api.Universal: 4}[kind]
	if size == 0 {
		size = 1
	}
	if whole := len(content) / size * size; whole != len(content) {
		return nil, whole, api.ErrBytes
	}
	for i := 0; i < len(content); i += size {
		var full [8]byte
		copy(full[8-size:], content[i:i+size])
		c := int(binary.BigEndian.Uint64(full[:]))
		if !plainHas(kind, c) {
			return nil, i, api.ErrRepertoire
		}
		s = append(s, c)
	}
	return s, 0, api.OK
}

// plainDecode returns what Decode has to return.
func plainDecode(kind int, value string) (s []int, at int, e api.Errno) {
	h, content, rest, e := tlv.One([]byte(value))
	if e != api.OK {
		return nil, 0, e
	}
	if h.Class != 0 || h.Tag != kind {
		return nil, 0, api.ErrTag
	}
	if h.Cons {
		return nil, 0, api.ErrForm
	}
	if len(rest) != 0 {
		return nil, 0, api.ErrTrailing
	}
	return plainGet(kind, string(content))
}

// encoded returns the DER value of a content.
func encoded(kind int, content string) string {
	n := len(content)
	head := []byte{byte(kind)}
	switch {
	case n < 0x80:
		head = append(head, byte(n))
	case n < 0x100:
		head = append(head, 0x81, byte(n))
	case n < 0x10000:
		head = append(head, 0x82, byte(n>>8), byte(n))
	default:
		head = append(head, 0x83, byte(n>>16), byte(n>>8), byte(n))
	}
	return string(head) + content
}

// mustCode checks Has, Put and Encode of s, and that Get and Decode return what these were given.
func mustCode(t *testing.T, kind int, s ...int) {
	content, at, fault := plainPut(kind, s)
	mustPut(t, kind, s, content, at, fault)
	if fault != api.OK {
		mustEncode(t, kind, s, "", at, fault)
		if str.Has(kind, s[at]) {
			t.Errorf("Has(%d, %#x) is true", kind, s[at])
		}
		return
	}
	mustEncode(t, kind, s, encoded(kind, content), 0, api.OK)
	mustGet(t, kind, content, s, 0, api.OK)
	mustDecode(t, kind, encoded(kind, content), s, 0, api.OK)
	for _, c := range s {
		if !str.Has(kind, c) {
			t.Errorf("Has(%d, %#x) is false", kind, c)
		}
	}
}

// mustRead checks Get and Decode of the value, and that what these return is encoded as the same value or, of Teletex, as one that stays. It returns the scalars, and whether the value has no fault.
func mustRead(t *testing.T, kind int, value string) ([]int, bool) {
	want, at, fault := plainDecode(kind, value)
	mustDecode(t, kind, value, want, at, fault)
	if fault != api.OK {
		return nil, false
	}
	if kind != api.Teletex {
		mustEncode(t, kind, want, value, 0, api.OK)
		return want, true
	}
	normal, at, e := str.Encode(kind, want)
	if at != 0 || e != api.OK {
		t.Errorf("Encode(%d, %#x): %d, %d", kind, want, at, e)
	}
	mustDecode(t, kind, string(normal), want, 0, api.OK)
	mustTranscode(t, kind, kind, string(normal), string(normal), 0, api.OK)
	return want, true
}

// P19.1, T1: all numbers, alone, from below 0 to beyond MaxScalar.
func TestEveryNumber(t *testing.T) {
	const workers = 16
	var group sync.WaitGroup
	for worker := range workers {
		group.Go(func() {
			for c := worker - 0x300; c <= api.MaxScalar+0x300; c += workers {
				for _, kind := range kinds {
					if kind != api.Teletex {
						mustCode(t, kind, c)
					}
				}
			}
		})
	}
	group.Wait()
}

// P19.1, T1: for Teletex all numbers up to one behind the last one that it has, and some of the others.
func TestManyNumbersOfTeletex(t *testing.T) {
	const workers, last = 16, 0x3100
	var counts [workers]int
	var group sync.WaitGroup
	for worker := range workers {
		group.Go(func() {
			for c := worker - 0x40; c <= last; c += workers {
				_, _, e := str.Put(api.Teletex, []int{c})
				if has := str.Has(api.Teletex, c); has != (e == api.OK) {
					t.Errorf("Has(%d, %#x) is %t, and the error of Put is %d", api.Teletex, c, has, e)
				} else if has {
					mustCode(t, api.Teletex, c)
					counts[worker]++
				}
			}
			for c := last + worker*409; c <= api.MaxScalar+0x10000; c += workers * 409 {
				mustCode(t, api.Teletex, c)
				mustPut(t, api.Teletex, []int{c}, "", 0, api.ErrNot)
			}
		})
	}
	group.Wait()
	sum := 0
	for _, n := range counts {
		sum += n
	}
	if sum != 672 {
		t.Errorf("Teletex has %d scalars; want 672", sum)
	}
}

// farNumbers returns numbers that are no scalars, among them those that are scalars but for some bits.
func farNumbers() []int {
	l := []int{math.MinInt, math.MinInt + 1, math.MinInt32, -0x110000, -0x10000, -0x41, -1, 0xD800, 0xDBFF, 0xDC00, 0xDFFF, api.MaxScalar + 1, math.MaxInt32, math.MaxUint32, math.MaxInt - 1, math.MaxInt}
	for _, c := range []int{0, 0x20, 0x30, 0x41, 0x7F, 0xC0, 0x3B1, 0xFFFF} {
		for _, shift := range []int{21, 31, 32, 48, 62, 63} {
			l = append(l, c+1<<shift, c-1<<shift)
		}
	}
	return l
}

// P19.1, R1, R5: numbers that are no scalars, alone and among others.
func TestFarNumbers(t *testing.T) {
	for _, kind := range kinds {
		for _, c := range farNumbers() {
			mustPut(t, kind, []int{c}, "", 0, api.ErrNot)
			mustCode(t, kind, c)
			mustCode(t, kind, c, '1')
			mustCode(t, kind, '1', ' ', c, '1', c)
		}
	}
}

// eachList calls f with every list of items of the alphabet that begins with l and fills its capacity.
func eachList[T any](alphabet, l []T, f func([]T)) {
	if len(l) == cap(l) {
		f(l)
		return
	}
	for _, x := range alphabet {
		eachList(alphabet, append(l, x), f)
	}
}

// P19.1, T1: all lists of up to three of some numbers that more or fewer of the kinds have.
func TestShortLists(t *testing.T) {
	some := []int{-1, 0, ' ', '$', '1', '=', 'a', '~', 0x7F, 0x80, 0xE9, 0x3B1, 0x6C34, 0xD800, 0xE000, 0x10000, 0x110000}
	var group sync.WaitGroup
	for _, kind := range kinds {
		group.Go(func() {
			for length := range 4 {
				eachList(some, make([]int, 0, length), func(s []int) { mustCode(t, kind, s...) })
			}
		})
	}
	group.Wait()
}

// P19.1, T1: all contents of one and of two bytes, and many of more.
func TestShortContents(t *testing.T) {
	few := []byte{0x00, 0x0E, 0x1B, 0x20, 0x28, 0x31, 0x46, 0x61, 0x80, 0xA4, 0xC1, 0xC3, 0xD8, 0xF0, 0xFF}
	var group sync.WaitGroup
	for _, kind := range kinds {
		check := func(content []byte) {
			s, at, e := plainGet(kind, string(content))
			mustGet(t, kind, string(content), s, at, e)
			mustRead(t, kind, encoded(kind, string(content)))
		}
		group.Go(func() {
			for x := range 0x100 {
				check([]byte{byte(x)})
				check([]byte{0, byte(x)})
				check([]byte{0, byte(x), 0, 0x31})
			}
			for length := 2; length <= 4; length++ {
				eachList(few, make([]byte, 0, length), check)
			}
		})
		if kind == api.Teletex {
			continue
		}
		group.Go(func() {
			for x := range 0x10000 {
				check([]byte{byte(x >> 8), byte(x)})
				check([]byte{0, 0, byte(x >> 8), byte(x)})
			}
		})
	}
	group.Wait()
}

// P19.1, T1: all values of up to two bytes, and all of three and four that begin with some bytes.
func TestShortValues(t *testing.T) {
	firsts := []byte{0x00, 0x0B, 0x1F, 0x30, 0x3F}
	for _, kind := range kinds {
		firsts = append(firsts, byte(kind), byte(kind|0x20), byte(kind|0x40), byte(kind|0x80))
	}
	few := []byte{0x00, 0x01, 0x02, 0x03, 0x1F, 0x31, 0x7F, 0x80, 0x81, 0x82, 0x84, 0x85, 0xFF}
	var group sync.WaitGroup
	for _, kind := range kinds {
		group.Go(func() {
			mustRead(t, kind, "")
			for x := range 0x10000 {
				mustRead(t, kind, string([]byte{byte(x >> 8)}))
				mustRead(t, kind, string([]byte{byte(x >> 8), byte(x)}))
			}
			for _, first := range firsts {
				for length := range 4 {
					eachList(few, append(make([]byte, 0, length+1), first), func(b []byte) { mustRead(t, kind, string(b)) })
				}
			}
		})
	}
	group.Wait()
}

// changes calls f with each byte string that has one bit or byte more, less or other than b.
func changes(b string, f func(string)) {
	for i := range len(b) {
		for bit := range 8 {
			f(b[:i] + string([]byte{b[i] ^ 1<<bit}) + b[i+1:])
		}
		f(b[:i] + b[i+1:])
	}
	for i := range len(b) + 1 {
		for _, x := range []byte{0x00, 0x01, 0x0C, 0x1B, 0x20, 0x31, 0x61, 0x80, 0x81, 0xC1, 0xFF} {
			f(b[:i] + string([]byte{x}) + b[i:])
			if i < len(b) && b[i] != x {
				f(b[:i] + string([]byte{x}) + b[i+1:])
			}
		}
	}
}

// P19.2, T1: what differs in one bit or byte is another string or none. Teletex has several contents for the same scalars, but they have no other headers.
func TestChangedValues(t *testing.T) {
	var group sync.WaitGroup
	for _, x := range samples() {
		group.Go(func() {
			s, value := scalars(x.text), encoded(x.kind, x.content)
			changes(value, func(b string) {
				got, right := mustRead(t, x.kind, b)
				if right && x.kind != api.Teletex && slices.Equal(got, s) {
					t.Errorf("% X and % X are both read as %#x", value, b, got)
				}
			})
		})
	}
	group.Wait()
	for _, kind := range kinds {
		for _, n := range []int{4, 124, 128, 256} {
			content, _ := ones(kind, n)
			value := encoded(kind, content)
			header := value[:len(value)-n]
			changes(header, func(b string) {
				if got, right := mustRead(t, kind, b+content); right && len(got) == n {
					t.Errorf("% X and % X are both headers of %d digits", header, b, n)
				}
			})
		}
	}
}

// numbers returns a function that returns numbers below the given one in no order, the same ones each time.
func numbers() func(below int) int {
	state := uint64(1)
	return func(below int) int {
		state = state*6364136223846793005 + 1442695040888963407
		return int(state>>33) % below
	}
}

// repertoire returns scalars of the kind.
func repertoire(kind int) []int {
	var l []int
	for _, x := range [][2]int{{0, 0x180}, {0x3A0, 0x3D0}, {0x410, 0x440}, {0x3040, 0x3060}, {0x6C34, 0x6C38}, {0xD7F0, 0xE010}, {0xFFF0, 0x10010}, {0x10FFF0, 0x110000}} {
		for c := x[0]; c < x[1]; c++ {
			if str.Has(kind, c) {
				l = append(l, c)
			}
		}
	}
	return l
}

// mixed returns count of the numbers of l in no order.
func mixed(l []int, count int, next func(int) int) []int {
	s := make([]int, count)
	for i := range s {
		s[i] = l[next(len(l))]
	}
	return s
}

// P19.1, T1: lists of many lengths, and the same ones with one number changed.
func TestMixedLists(t *testing.T) {
	var group sync.WaitGroup
	for _, kind := range kinds {
		group.Go(func() {
			next, from := numbers(), repertoire(kind)
			for count := 1; count < 400; count += 1 + count/8 {
				s := mixed(from, count, next)
				mustCode(t, kind, s...)
				s[next(count)] = next(0x120000)
				mustCode(t, kind, s...)
			}
		})
	}
	group.Wait()
}

// P19.1: Transcode is Decode and then Encode, for lists of each kind to each other one.
func TestMixedTranscodes(t *testing.T) {
	var group sync.WaitGroup
	for _, from := range kinds {
		group.Go(func() {
			next, all := numbers(), repertoire(from)
			digits := []int{' ', '0', '1', '9'}
			for _, to := range kinds {
				for range 40 {
					s := mixed(digits, next(60), next)
					if at := next(80); at < len(s) {
						s[at] = all[next(len(all))]
					}
					given, _, _ := plainPut(from, s)
					content, at, e := plainPut(to, s)
					want := ""
					if e == api.OK {
						want = encoded(to, content)
						mustTranscode(t, to, from, want, encoded(from, given), 0, api.OK)
					}
					mustTranscode(t, from, to, encoded(from, given), want, at, e)
				}
			}
		})
	}
	group.Wait()
}

// P19.1, R1: long lists, right to the end and with a fault there.
func TestLong(t *testing.T) {
	var group sync.WaitGroup
	for _, kind := range kinds {
		group.Go(func() {
			s := mixed(repertoire(kind), 200000, numbers())
			b, at, e := str.Encode(kind, s)
			content, _, _ := plainPut(kind, s)
			if string(b) != encoded(kind, content) || at != 0 || e != api.OK {
				t.Errorf("Encode(%d) of %d scalars has %d bytes, %d, %d", kind, len(s), len(b), at, e)
			}
			got, at, e := str.Decode(kind, b)
			if !slices.Equal(got, s) || at != 0 || e != api.OK {
				t.Errorf("Decode(%d) of %d bytes has %d scalars, %d, %d", kind, len(b), len(got), at, e)
			}
			if b, at, e := str.Encode(kind, append(s, 0xD800)); len(b) != 0 || at != len(s) || e != api.ErrNot {
				t.Errorf("Encode(%d) of %d scalars and a surrogate has %d bytes, %d, %d", kind, len(s), len(b), at, e)
			}
			if out, at, e := str.Transcode(kind, api.Utf8, b); string(out) != encoded(api.Utf8, text(s)) || at != 0 || e != api.OK {
				t.Errorf("Transcode(%d) of %d bytes has %d bytes, %d, %d", kind, len(b), len(out), at, e)
			}
		})
	}
	group.Wait()
}

// text returns the scalars of s in UTF-8.
func text(s []int) string {
	content, _, _ := plainPut(api.Utf8, s)
	return content
}
