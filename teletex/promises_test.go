package teletex_test

import (
	"runtime/debug"
	"slices"
	"strings"
	"sync"
	"testing"

	"sobriquet/api"
	"sobriquet/shift"
	"sobriquet/teletex"
	"sobriquet/ucd"
)

// TestMain lets memory be collected less often: each call makes tables that nothing keeps.
func TestMain(m *testing.M) {
	debug.SetGCPercent(2000)
	m.Run()
}

// sequences designate the sets of the table Sets as G0.
var sequences = map[int]string{102: primary, 6: ascii, 126: greek, 144: cyrillic, 138: hebrew, 87: japanese}

// letters are those that may take an accent.
const letters = "ABCDEFGHIJKLMNOPQRSTUVWXYZabcdefghijklmnopqrstuvwxyz"

// written is what is written for a scalar, and what is G0 behind it.
type written struct {
	bytes string
	g0    int
}

// where is a scalar and what is G0 ahead of it.
type where struct{ c, g0 int }

// lists holds whatever can be written and read, made of the tables at once.
type lists struct {
	write  map[where]written
	single map[api.Token]int    // the tokens that are a scalar alone
	double map[[2]api.Token]int // accents and what takes them
	all    []int                // the scalars that can be written, in their order
}

// made is the lists; the tests do not change it.
var made = sync.OnceValue(newLists)

// spelled returns the bytes of a place, each with a number added.
func spelled(place, added int) string {
	if place > 0xFF {
		return string([]byte{byte(place>>8 + added), byte(place&0xFF + added)})
	}
	return string([]byte{byte(place + added)})
}

// newLists makes the lists. The cases of the normal form are entered from the last one to the first one, so that each replaces those behind it.
func newLists() lists {
	l := lists{write: map[where]written{}, single: map[api.Token]int{}, double: map[[2]api.Token]int{}}
	codes := slices.Backward(api.Codes())
	for g0 := range sequences {
		for _, set := range slices.Backward(api.Sets()) {
			for _, x := range codes {
				if x.Set == set {
					l.write[where{x.Scalar, g0}] = written{sequences[set] + spelled(x.Place, 0), set}
				}
			}
		}
		l.addAccents(g0)
		for _, set := range []int{103, g0} {
			for _, x := range codes {
				if x.Set == set {
					l.write[where{x.Scalar, g0}] = written{spelled(x.Place, map[bool]int{true: 0x80}[set == 103]), g0}
				}
			}
		}
		for _, x := range " \b\n\f\r" {
			l.write[where{int(x), g0}] = written{string(x), g0}
			l.single[api.Token{Place: int(x)}] = int(x)
		}
	}
	for _, x := range codes {
		l.single[api.Token{Set: x.Set, Place: x.Place}] = x.Scalar
	}
	for x := range l.write {
		if x.g0 == 102 {
			l.all = append(l.all, x.c)
		}
	}
	slices.Sort(l.all)
	return l
}

// addAccents adds what accents form to the lists, for one set as G0.
func (l lists) addAccents(g0 int) {
	for _, x := range slices.Backward(api.Accents()) {
		for _, letter := range []byte(letters) {
			c, known := ucd.Pair(int(letter), x[1])
			if !known {
				continue
			}
			text := spelled(x[0], 0x80) + string(letter)
			if g0 == 102 || g0 == 6 {
				l.write[where{c, g0}] = written{text, g0}
			} else {
				l.write[where{c, g0}] = written{primary + text, 102}
			}
			for _, set := range []int{102, 6} {
				l.double[[2]api.Token{{Set: 103, Place: x[0]}, {Set: set, Place: int(letter)}}] = c
			}
		}
	}
	for _, x := range slices.Backward(api.Accents()) {
		l.write[where{x[2], g0}] = written{spelled(x[0], 0x80) + " ", g0}
		l.double[[2]api.Token{{Set: 103, Place: x[0]}, {Place: 0x20}}] = x[2]
	}
}

// put returns what Put has to return.
func (l lists) put(s []int) (b string, at int, e api.Errno) {
	var text strings.Builder
	g0 := 102
	for i, c := range s {
		x, known := l.write[where{c, g0}]
		if !known {
			return "", i, api.ErrNot
		}
		text.WriteString(x.bytes)
		g0 = x.g0
	}
	return text.String(), 0, api.OK
}

// read returns what Read has to return.
func (l lists) read(b string) (s []int, at int, e api.Errno) {
	tokens, at, e := shift.Tokens([]byte(b))
	if e != api.OK {
		return nil, at, e
	}
	for i := 0; i < len(tokens); i++ {
		c, known := l.single[tokens[i]]
		accent := slices.ContainsFunc(api.Accents(), func(x [3]int) bool { return tokens[i] == api.Token{Set: 103, Place: x[0]} })
		switch {
		case known:
			s = append(s, c)
			continue
		case !accent:
			return nil, i, api.ErrRepertoire
		case i+1 == len(tokens):
			return nil, i, api.ErrShort
		}
		if c, known = l.double[[2]api.Token{tokens[i], tokens[i+1]}]; !known {
			return nil, i, api.ErrRepertoire
		}
		s = append(s, c)
		i++
	}
	return s, 0, api.OK
}

// mustPut checks Put of s, and that Read returns what Put was given.
func (l lists) mustPut(t *testing.T, s ...int) {
	t.Helper()
	want, index, fault := l.put(s)
	b, at, e := teletex.Put(s)
	if string(b) != want || at != index || e != fault {
		t.Errorf("Put(%#x) = % X, %d, %d; want % X, %d, %d", s, b, at, e, want, index, fault)
		return
	}
	if e != api.OK {
		return
	}
	if got, at, e := teletex.Read(b); !slices.Equal(got, s) || at != 0 || e != api.OK {
		t.Errorf("Read(Put(%#x)) = %#x, %d, %d", s, got, at, e)
	}
}

// mustGet checks Read of b, and that the normal form of what it returns stays the same. It reports whether b has no fault.
func (l lists) mustGet(t *testing.T, b string) bool {
	t.Helper()
	want, place, fault := l.read(b)
	s, at, e := teletex.Read([]byte(b))
	if !slices.Equal(s, want) || at != place || e != fault {
		t.Errorf("Read(% X) = %#x, %d, %d; want %#x, %d, %d", b, s, at, e, want, place, fault)
		return false
	}
	if e != api.OK {
		return false
	}
	once, _, e := teletex.Put(s)
	again, _, other := teletex.Read(once)
	twice, _, last := teletex.Put(again)
	if e != api.OK || other != api.OK || last != api.OK || !slices.Equal(again, s) || string(twice) != string(once) {
		t.Errorf("% X has the normal forms % X, %d, and % X, %d; that is read as %#x, %d", b, once, e, twice, last, again, other)
	}
	return true
}

// P18.1: the lists have what the chapter names, as many as there are.
func TestCounts(t *testing.T) {
	l := made()
	if len(l.all) != 672 || len(l.write) != 6*672 {
		t.Errorf("%d scalars can be written, in %d ways", len(l.all), len(l.write))
	}
	if len(l.single) != 588 || len(l.double) != 343 {
		t.Errorf("%d tokens and %d pairs of tokens can be read", len(l.single), len(l.double))
	}
}

// P18.1: Has of every number up to MaxScalar, and of some beyond both ends.
func TestHasEveryNumber(t *testing.T) {
	known := map[int]bool{}
	for _, c := range made().all {
		known[c] = true
	}
	const workers = 16
	var group sync.WaitGroup
	for worker := range workers {
		group.Go(func() {
			for c := worker - 0x400; c <= api.MaxScalar+0x400; c += workers {
				if got := teletex.Has(c); got != known[c] {
					t.Errorf("Has(%#x) is %t", c, got)
				}
			}
		})
	}
	group.Wait()
}

// P18.1: Put of each number alone: all up to the last one that can be written, with those behind it, and some of the others.
func TestPutOne(t *testing.T) {
	l := made()
	last := l.all[len(l.all)-1]
	const workers = 16
	var group sync.WaitGroup
	for worker := range workers {
		group.Go(func() {
			for c := worker - 0x40; c <= last+0x40; c += workers {
				l.mustPut(t, c)
			}
			for c := worker*1009 + last; c <= api.MaxScalar+0x10000; c += workers * 1009 {
				l.mustPut(t, c)
			}
		})
	}
	group.Wait()
}

// starts are scalars that only one set has, by this set.
var starts = map[int]int{102: 'A', 6: '{', 126: 0x3B1, 144: 0x42F, 138: 0x5D0, 87: 0x3042}

// P18.1, P18.2: each scalar with each set as G0, and what is designated behind it.
func TestPutWithEachSet(t *testing.T) {
	l := made()
	var group sync.WaitGroup
	for set, start := range starts {
		group.Go(func() {
			if got := l.write[where{start, set}]; got.g0 != set {
				t.Errorf("behind %#x, which only %d has, %d is designated", start, set, got.g0)
			}
			for _, c := range l.all {
				l.mustPut(t, start, c, start)
				l.mustPut(t, start, c, 'A')
				l.mustPut(t, start, c, '{', 0)
			}
		})
	}
	group.Wait()
}

// P18.1, P18.2: all lists of three numbers that meet each of the cases, and none.
func TestPutShortLists(t *testing.T) {
	l := made()
	some := append(scalars(" \naz$#¤{`~´éÀæΩαЯאあ"), 0, -1, 0x301)
	var group sync.WaitGroup
	for _, a := range some {
		group.Go(func() {
			for _, b := range some {
				for _, c := range some {
					l.mustPut(t, a, b, c)
				}
			}
		})
	}
	group.Wait()
}

// numbers returns a function that returns numbers below the given one in no order, the same ones each time.
func numbers() func(below int) int {
	state := uint64(1)
	return func(below int) int {
		state = state*6364136223846793005 + 1442695040888963407
		return int(state>>33) % below
	}
}

// P18.1, P18.2: long lists of all scalars in no order.
func TestPutMixedLists(t *testing.T) {
	l, next := made(), numbers()
	for range 3 {
		var s []int
		for range 20000 {
			s = append(s, l.all[next(len(l.all))])
		}
		l.mustPut(t, s...)
		s[next(len(s))] = next(0x110000)
		l.mustPut(t, s...)
	}
}

// P18.1: each accent ahead of each position of each set, whether the tables have it or not, and of the space and the controls.
func TestReadEachAccentAheadOfAll(t *testing.T) {
	l := made()
	var group sync.WaitGroup
	for place := 0x40; place <= 0x50; place++ {
		group.Go(func() {
			accent := spelled(place, 0x80)
			for x := 0x21; x <= 0x7E; x++ {
				for set, sequence := range sequences {
					if set == 87 {
						l.mustGet(t, sequence+accent+spelled(0x2400+x, 0))
						l.mustGet(t, sequence+accent+spelled(x<<8+x, 0))
						continue
					}
					l.mustGet(t, sequence+accent+spelled(x, 0))
				}
				l.mustGet(t, accent+spelled(x, 0x80))
			}
			for _, x := range " \b\n\f\r" {
				l.mustGet(t, accent+string(x))
				l.mustGet(t, accent+string(x)+accent)
			}
		})
	}
	group.Wait()
}

// P18.1: each position of each set, whether the tables have it or not.
func TestReadEachPosition(t *testing.T) {
	l := made()
	for first := 0x21; first <= 0x7E; first++ {
		for _, set := range []int{102, 6, 126, 144, 138} {
			l.mustGet(t, sequences[set]+spelled(first, 0))
			l.mustGet(t, "A"+sequences[set]+spelled(first, 0)+" ")
		}
		l.mustGet(t, "A"+spelled(first, 0x80))
		l.mustGet(t, spelled(first, 0x80)+"A")
	}
	var group sync.WaitGroup
	for first := 0x21; first <= 0x7E; first++ {
		group.Go(func() {
			for second := 0x21; second <= 0x7E; second++ {
				l.mustGet(t, japanese+spelled(first<<8+second, 0))
			}
		})
	}
	group.Wait()
}

// P18.1: all strings of one and of two bytes, at first and with other sets designated and invoked.
func TestReadShortStrings(t *testing.T) {
	l := made()
	l.mustGet(t, "")
	var group sync.WaitGroup
	for x := range 0x100 {
		group.Go(func() {
			text := spelled(x, 0)
			for _, state := range []string{"", "A", "\xC1", "\xC2 ", ascii, greek, japanese, "\x1B\x28v", "\x1B\x2Au", "\x1B\x29H\x0E"} {
				l.mustGet(t, state+text)
			}
			for y := range 0x100 {
				l.mustGet(t, text+spelled(y, 0))
			}
		})
	}
	group.Wait()
}

// pieces are characters, accents, shifts and sequences.
func pieces() []string {
	l := []string{" ", " ", " ", "\n", "\r", "\x0F", "\x0E", "\x1B\x6E", "\x1B\x6F", "\x1B\x7D", "\x1B\x7E", "\x1B\x21E"}
	for _, character := range []string{"A", "e", "zz", "$!", "\x24\x24", "\x61\x62", "uo", "\xA4\xA3", "\xF1\xF2", "\xC1A", "\xC2e", "\xC8u", "\xC1 ", "\xC3 ", "\x19A", "\xCF"} {
		l = append(l, character, character, character)
	}
	for _, sequence := range sequences {
		l = append(l, sequence, sequence)
	}
	slices.Sort(l)
	return append(l, "\x1B\x29B", "\x1B\x29L", "\x1B\x2Av", "\x1B\x2Av", "\x1B\x2AB", "\x1B\x2Bv", "\x1B\x28v", "\x1D\x41")
}

// P18.1, P18.2: strings of pieces in no order, with one byte changed or dropped, and without.
func TestReadMixedStrings(t *testing.T) {
	l, next, from := made(), numbers(), pieces()
	var texts []string
	for range 6000 {
		var text string
		for range 1 + next(9) {
			text += from[next(len(from))]
		}
		at := next(len(text))
		texts = append(texts, text, text[:at], text[:at]+text[at+1:], text[:at]+spelled(next(0x100), 0)+text[at+1:])
	}
	const workers = 16
	var rights [workers]int
	var group sync.WaitGroup
	for worker := range workers {
		group.Go(func() {
			for i := worker; i < len(texts); i += workers {
				if l.mustGet(t, texts[i]) {
					rights[worker]++
				}
			}
		})
	}
	group.Wait()
	right := 0
	for _, n := range rights {
		right += n
	}
	if right < len(texts)/10 || right > len(texts)*9/10 {
		t.Errorf("%d of %d strings have no fault", right, len(texts))
	}
}
