package shift_test

import (
	"slices"
	"strings"
	"testing"

	"sobriquet/api"
	"sobriquet/shift"
)

// effect is what an escape sequence or a shift does to a reader; nil if it names no supported set.
type effect func(*reader)

// reader divides bytes by looking whole escape sequences up in a list.
type reader struct {
	known       map[string]effect
	begun       map[string]bool // what known sequences begin with
	sets        [4]int          // 0: none
	left, right int
}

// narrowFinals and wideFinals are the sets of the final bytes.
var (
	narrowFinals = map[byte]int{0x75: 102, 0x42: 6, 0x46: 126, 0x4C: 144, 0x48: 138, 0x76: 103}
	wideFinals   = map[byte]int{0x42: 87}
)

// designations adds the sequences that begin with start and designate each number of G0 to G3 by each final byte.
func designations(known map[string]effect, start string, finals map[byte]int) {
	for g := range 4 {
		for final := range 0x100 {
			sequence := start + string([]byte{byte(0x28 + g), byte(final)})
			known[sequence] = nil
			if set := finals[byte(final)]; set != 0 {
				known[sequence] = func(r *reader) { r.sets[g] = set }
			}
		}
	}
}

// newReader returns a reader in the state of the chapter.
func newReader() *reader {
	known := map[string]effect{
		"\x0E":         func(r *reader) { r.left = 1 },
		"\x0F":         func(r *reader) { r.left = 0 },
		"\x1B\x21\x45": func(*reader) {},
		"\x1B\x22\x48": func(*reader) {},
		"\x1B\x6E":     func(r *reader) { r.left = 2 },
		"\x1B\x6F":     func(r *reader) { r.left = 3 },
		"\x1B\x7E":     func(r *reader) { r.right = 1 },
		"\x1B\x7D":     func(r *reader) { r.right = 2 },
		"\x1B\x7C":     func(r *reader) { r.right = 3 },
	}
	designations(known, "\x1B", narrowFinals)
	designations(known, "\x1B\x24", wideFinals)
	begun := map[string]bool{}
	for sequence := range known {
		for n := range len(sequence) {
			begun[sequence[:n]] = true
		}
	}
	return &reader{known: known, begun: begun}
}

// reset brings the reader into the state in which it begins.
func (r *reader) reset() {
	r.sets, r.left, r.right = [4]int{102, 0, 103, 0}, 0, 2
}

// tokens returns what Tokens has to return for text.
func (r *reader) tokens(text string) (l []api.Token, at int, e api.Errno) {
	r.reset()
	for at < len(text) {
		rest := text[at:]
		n, fault := 0, api.OK
		switch {
		case strings.ContainsRune("\x0E\x0F\x1B", rune(rest[0])):
			n, fault = r.sequence(rest)
		case strings.ContainsRune(" \b\n\f\r", rune(rest[0])):
			l, n = append(l, api.Token{Place: int(rest[0])}), 1
		default:
			var t api.Token
			t, n, fault = r.character(rest)
			l = append(l, t)
		}
		if fault != api.OK {
			return nil, at, fault
		}
		at += n
	}
	return l, 0, api.OK
}

// sequence does what the sequence at the beginning of text says, and returns its length.
func (r *reader) sequence(text string) (int, api.Errno) {
	for n := 1; n <= len(text); n++ {
		do, known := r.known[text[:n]]
		switch {
		case known && do == nil:
			return 0, api.ErrSet
		case known:
			do(r)
			return n, api.OK
		case !r.begun[text[:n]]:
			return 0, api.ErrBytes
		}
	}
	return 0, api.ErrShort
}

// character returns the character at the beginning of text and its length, with the single shift ahead of it.
func (r *reader) character(text string) (api.Token, int, api.Errno) {
	shifted, sets := 0, map[string]int{"left": r.sets[r.left], "right": r.sets[r.right]}
	for single, set := range map[byte]int{0x19: r.sets[2], 0x1D: r.sets[3]} {
		if text[0] == single {
			shifted, sets = 1, map[string]int{"left": set, "right": set}
		}
	}
	text = text[shifted:]
	if text == "" {
		return api.Token{}, 0, api.ErrShort
	}
	first, side := placeOf(int(text[0]))
	set := sets[side]
	switch {
	case side == "":
		return api.Token{}, 0, api.ErrBytes
	case set == 0:
		return api.Token{}, 0, api.ErrSet
	case set != 87:
		return api.Token{Set: set, Place: first}, shifted + 1, api.OK
	case len(text) < 2:
		return api.Token{}, 0, api.ErrShort
	}
	second, other := placeOf(int(text[1]))
	if other != side {
		return api.Token{}, 0, api.ErrBytes
	}
	return api.Token{Set: 87, Place: first*256 + second}, shifted + 2, api.OK
}

// mustAgree checks Tokens of text against the reader.
func (r *reader) mustAgree(t *testing.T, text string) {
	t.Helper()
	want, offset, fault := r.tokens(text)
	l, at, e := shift.Tokens([]byte(text))
	if !slices.Equal(l, want) || at != offset || e != fault {
		t.Fatalf("Tokens(% X) = %v, %d, %d; want %v, %d, %d", text, l, at, e, want, offset, fault)
	}
}

// states are bytes that bring a reader into states of many kinds.
func states() []string {
	return []string{
		"", "A", greekG0, wideG0, wideG2, wideG3, hebrewG3, wideG0 + wideG2, wideG0 + "\x24", wideG2 + "\xA4", wideG0 + oneG2, wideG2 + oneG2, wideG3 + oneG3, wideG3 + oneG3 + "\x24", wideG3 + oneG3 + "\xA4",
		leftG1, cyrillicG1 + leftG1, wideG1 + leftG1, wideG1 + rightG1, leftG2, leftG3 + hebrewG3, wideG3 + leftG3, rightG1, rightG3, wideG3 + rightG3, oneG2, oneG3, hebrewG3 + oneG3,
		"\x1B", "\x1B\x21", "\x1B\x22", "\x1B\x24", "\x1B\x28", "\x1B\x29", "\x1B\x2A", "\x1B\x2B", "\x1B\x24\x28", "\x1B\x24\x29", "\x1B\x24\x2A", "\x1B\x24\x2B", "A\xC1 \x1B",
	}
}

// P17.1: all strings of up to two bytes, in each of many states.
func TestEveryShortString(t *testing.T) {
	r := newReader()
	for _, state := range states() {
		r.mustAgree(t, state)
		for x := range 0x100 {
			r.mustAgree(t, state+one(x))
			for y := range 0x100 {
				r.mustAgree(t, state+one(x)+one(y))
			}
		}
	}
}

// P17.1: all strings of three bytes behind 1B, with characters of all sets behind them.
func TestEveryEscapeSequence(t *testing.T) {
	r := newReader()
	for second := range 0x100 {
		for third := range 0x100 {
			text := "\x1B" + one(second) + one(third)
			r.mustAgree(t, text)
			for _, end := range []string{"A\xC1", "\x0EA\x0F", "\x19A\x1DA", "\x21\x21\xA1\xA1", "uA", "B\x24\x21"} {
				r.mustAgree(t, text+end)
				r.mustAgree(t, hebrewG3+cyrillicG1+text+end)
			}
			if text[1] != 0x24 {
				continue
			}
			for fourth := range 0x100 {
				r.mustAgree(t, text+one(fourth)+"\x24\x21\x0E\x24\x21\xA4\xA1\x1D\x24\x21")
			}
		}
	}
}

// eachText calls f with every text of n bytes of the alphabet behind start.
func eachText(alphabet, start string, n int, f func(string)) {
	if n == 0 {
		f(start)
		return
	}
	for i := range len(alphabet) {
		eachText(alphabet, start+alphabet[i:i+1], n-1, f)
	}
}

// P17.1: all strings of some bytes, among them those of every shift and of the designations.
func TestManyStrings(t *testing.T) {
	r := newReader()
	for n := range 5 {
		eachText("\x0E\x0F\x19\x1D\x1B\x20\x21\x24\x28\x2BBHu\x6E\x6F\x7C\x7D\x7E\xA4\xC1\x00", "", n, func(text string) { r.mustAgree(t, text) })
	}
	for n := range 8 {
		eachText("\x1B\x24\x2B\x42\x1D\xA4", "", n, func(text string) { r.mustAgree(t, text) })
	}
}

// numbers returns a function that returns numbers below the given one in no order, the same ones each time.
func numbers() func(below int) int {
	state := uint64(1)
	return func(below int) int {
		state = state*6364136223846793005 + 1442695040888963407
		return int(state>>33) % below
	}
}

// pieces are characters, shifts and sequences, by which strings without a fault are made too.
func pieces() []string {
	l := []string{" ", "\n", "\b", "\f", "\r", leftG0, leftG0, leftG1, leftG2, leftG3, rightG1, rightG2, rightG2, rightG3, oneG2, oneG3, "\x1B\x21E", "\x1B\x22H"}
	for _, character := range []string{"!!", "~~", "$!", "Aa", "%v", "az", "\xA1\xA1", "\xFE\xFE", "\xA4\xA1", "\xC1\xE1"} {
		l = append(l, slices.Repeat([]string{character}, 6)...)
	}
	for _, x := range allSets {
		for _, designator := range designators {
			if x.wide {
				l = append(l, "\x1B\x24"+designator+x.final, "\x1B\x24"+designator+x.final)
			} else {
				l = append(l, "\x1B"+designator+x.final)
			}
		}
	}
	return l
}

// P17.1: strings of pieces in no order, with one byte changed, dropped or added, and without.
func TestMixedStrings(t *testing.T) {
	r, next, from := newReader(), numbers(), pieces()
	right, wrong := 0, 0
	for range 200000 {
		var text string
		for range 1 + next(20) {
			text += from[next(len(from))]
		}
		r.mustAgree(t, text)
		if _, _, e := r.tokens(text); e == api.OK {
			right++
		} else {
			wrong++
		}
		at := next(len(text))
		r.mustAgree(t, text[:at])
		r.mustAgree(t, text[:at]+text[at+1:])
		r.mustAgree(t, text[:at]+one(next(0x100))+text[at:])
		r.mustAgree(t, text[:at]+one(next(0x100))+text[at+1:])
	}
	if right < 20000 || wrong < 20000 {
		t.Errorf("%d strings are right and %d wrong", right, wrong)
	}
}

// sides are the ways to read characters of each of G0 to G3: what comes ahead of each one or of all, and what is added to the bytes.
var sides = [4][]struct {
	before, single string
	added          int
}{
	{{"", "", 0}, {leftG1 + leftG0, "", 0}},
	{{leftG1, "", 0}, {rightG1, "", 0x80}},
	{{leftG2, "", 0}, {"", "", 0x80}, {rightG1 + rightG2, "", 0x80}, {"", oneG2, 0}, {"", oneG2, 0x80}},
	{{leftG3, "", 0}, {rightG3, "", 0x80}, {"", oneG3, 0}, {"", oneG3, 0x80}},
}

// spelled returns the bytes of a place of a set, each with a number added.
func spelled(place, added int) string {
	if place > 0xFF {
		return one(place>>8+added) + one(place&0xFF+added)
	}
	return one(place + added)
}

// P17.2: all positions of each set are read as such behind the escape sequence that Escape returns, in each of G0 to G3.
func TestCharactersBehindEscape(t *testing.T) {
	for _, x := range allSets {
		var want []int
		for _, code := range api.Codes() {
			if code.Set == x.set {
				want = append(want, x.set, code.Place)
			}
		}
		for g, ways := range sides {
			sequence, e := shift.Escape(g, x.set)
			if e != api.OK {
				t.Fatalf("Escape(%d, %d): %d", g, x.set, e)
			}
			for _, way := range ways {
				text := string(sequence) + way.before
				for pair := range slices.Chunk(want, 2) {
					text += way.single + spelled(pair[1], way.added)
				}
				mustRead(t, text, want...)
				mustRead(t, way.before+string(sequence)+text, want...)
			}
		}
	}
}

// P17.2: the sequences of two sets, one behind the other, for the same number and for different ones.
func TestTwoSetsBehindEscape(t *testing.T) {
	for _, x := range allSets {
		for _, y := range allSets {
			for g := range 4 {
				for h := range 4 {
					first, _ := shift.Escape(g, x.set)
					second, _ := shift.Escape(h, y.set)
					character := map[bool]string{false: "A", true: "AA"}
					place := map[bool]int{false: 0x41, true: 0x4141}
					text := string(first) + designated(g, character[x.wide]) + string(second) + designated(h, character[y.wide])
					want := []int{x.set, place[x.wide], y.set, place[y.wide]}
					if g != h {
						text += designated(g, character[x.wide])
						want = append(want, x.set, place[x.wide])
					}
					mustRead(t, text, want...)
				}
			}
		}
	}
}
