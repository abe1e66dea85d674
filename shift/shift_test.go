package shift_test

import (
	"bytes"
	"math"
	"slices"
	"strings"
	"sync"
	"testing"

	"sobriquet/api"
	"sobriquet/shift"
)

// The sets that are supported, with their final bytes.
var allSets = []struct {
	set   int
	final string
	wide  bool
}{{102, "u", false}, {6, "B", false}, {126, "F", false}, {144, "L", false}, {138, "H", false}, {103, "v", false}, {87, "B", true}}

// The bytes behind 1B that designate a set as G0 to G3.
var designators = []string{"\x28", "\x29", "\x2A", "\x2B"}

// Sequences and shifts by what they do.
const (
	leftG0, leftG1, leftG2, leftG3    = "\x0F", "\x0E", "\x1B\x6E", "\x1B\x6F"
	rightG1, rightG2, rightG3         = "\x1B\x7E", "\x1B\x7D", "\x1B\x7C"
	oneG2, oneG3                      = "\x19", "\x1D"
	wideG0, wideG1                    = "\x1B\x24\x28B", "\x1B\x24\x29B"
	wideG2, wideG3                    = "\x1B\x24\x2AB", "\x1B\x24\x2BB"
	greekG0, cyrillicG1, hebrewG3     = "\x1B\x28F", "\x1B\x29L", "\x1B\x2BH"
	greek, cyrillic, hebrew, japanese = 126, 144, 138, 87
	primary, supplementary, ascii     = 102, 103, 6
)

// tokens returns the tokens of the given sets and places, in turn.
func tokens(l ...int) []api.Token {
	var all []api.Token
	for x := range slices.Chunk(l, 2) {
		all = append(all, api.Token{Set: x[0], Place: x[1]})
	}
	return all
}

// mustRead checks that the bytes of text are the tokens of the given sets and places.
func mustRead(t *testing.T, text string, want ...int) {
	t.Helper()
	if l, at, e := shift.Tokens([]byte(text)); !slices.Equal(l, tokens(want...)) || at != 0 || e != api.OK {
		t.Errorf("Tokens(% X) = %v, %d, %d; want %v", text, l, at, e, tokens(want...))
	}
}

// mustFail checks that Tokens rejects the bytes of text with the offset at and the error want.
func mustFail(t *testing.T, text string, at int, want api.Errno) {
	t.Helper()
	if l, got, e := shift.Tokens([]byte(text)); len(l) != 0 || got != at || e != want {
		t.Errorf("Tokens(% X) = %v, %d, %d; want none, %d, %d", text, l, got, e, at, want)
	}
}

// mustEscape checks that Escape returns the bytes of want.
func mustEscape(t *testing.T, g, set int, want string) {
	t.Helper()
	if b, e := shift.Escape(g, set); string(b) != want || e != api.OK {
		t.Errorf("Escape(%d, %d) = % X, %d; want % X", g, set, b, e, want)
	}
}

// mustNotEscape checks that Escape returns the error want.
func mustNotEscape(t *testing.T, g, set int, want api.Errno) {
	t.Helper()
	if b, e := shift.Escape(g, set); len(b) != 0 || e != want {
		t.Errorf("Escape(%d, %d) = % X, %d; want none, %d", g, set, b, e, want)
	}
}

// one returns the byte x as a text.
func one(x int) string {
	return string([]byte{byte(x)})
}

// placeOf returns the byte of a place that x is, and its side: "left", "right" or "" if it is none.
func placeOf(x int) (place int, side string) {
	switch {
	case 0x21 <= x && x <= 0x7E:
		return x, "left"
	case 0xA1 <= x && x <= 0xFE:
		return x - 0x80, "right"
	}
	return 0, ""
}

// P17.1: the example of the chapter.
func TestExample(t *testing.T) {
	mustRead(t, "\x1B\x28\x46\x61", 126, 0x61)
}

// P17.1: no bytes have no tokens.
func TestNoBytes(t *testing.T) {
	mustRead(t, "")
	if l, at, e := shift.Tokens(nil); len(l) != 0 || at != 0 || e != api.OK {
		t.Errorf("Tokens(nil) = %v, %d, %d", l, at, e)
	}
}

// P17.1: what each byte is at first, ahead of others and behind others.
func TestEachByteAtFirst(t *testing.T) {
	for x := range 0x100 {
		place, side := placeOf(x)
		switch {
		case x == 0x20 || x == 0x08 || x == 0x0A || x == 0x0C || x == 0x0D:
			mustRead(t, one(x), 0, x)
			mustRead(t, "A"+one(x)+"\xC1", primary, 0x41, 0, x, supplementary, 0x41)
		case x == 0x0E || x == 0x0F:
			mustRead(t, one(x))
			mustRead(t, "A"+one(x), primary, 0x41)
		case x == 0x19 || x == 0x1D || x == 0x1B:
			mustFail(t, one(x), 0, api.ErrShort)
			mustFail(t, "A"+one(x), 1, api.ErrShort)
		case side == "left":
			mustRead(t, one(x), primary, place)
			mustRead(t, "A"+one(x)+"\xC1", primary, 0x41, primary, place, supplementary, 0x41)
		case side == "right":
			mustRead(t, one(x), supplementary, place)
			mustRead(t, "A"+one(x)+"A", primary, 0x41, supplementary, place, primary, 0x41)
		default:
			mustFail(t, one(x), 0, api.ErrBytes)
			mustFail(t, "A"+one(x)+"A", 1, api.ErrBytes)
			mustFail(t, "\xC1 "+one(x), 2, api.ErrBytes)
		}
	}
}

// P17.1: the space and the controls are themselves whatever is invoked.
func TestSpaceAndControlsInEachState(t *testing.T) {
	for _, text := range []string{greekG0, wideG0, cyrillicG1 + leftG1, leftG1, leftG2, leftG3, rightG1, rightG3, wideG2, wideG3 + leftG3 + rightG3} {
		mustRead(t, text+" \b\n\f\r", 0, 0x20, 0, 0x08, 0, 0x0A, 0, 0x0C, 0, 0x0D)
		mustFail(t, text+" \xA0", len(text)+1, api.ErrBytes)
		mustFail(t, text+" \x7F", len(text)+1, api.ErrBytes)
		mustFail(t, text+"\t", len(text), api.ErrBytes)
	}
}

// P17.1: positions that the table Codes does not have are tokens too.
func TestPlacesWithoutScalars(t *testing.T) {
	mustRead(t, "\x7E\x5C\xA9\xE5\xC0", primary, 0x7E, primary, 0x5C, supplementary, 0x29, supplementary, 0x65, supplementary, 0x40)
	mustRead(t, greekG0+"\x21\x52", greek, 0x21, greek, 0x52)
	mustRead(t, hebrewG3+leftG3+"\x21\x7E", hebrew, 0x21, hebrew, 0x7E)
	mustRead(t, wideG0+"\x21\x21\x7E\x7E\x24\x7E", japanese, 0x2121, japanese, 0x7E7E, japanese, 0x247E)
}

// P17.1: 0E invokes G1 on the left, and 0F G0, until something else is invoked there.
func TestLockingShifts(t *testing.T) {
	mustRead(t, cyrillicG1+"A\x0EA \nA\x0EA\xC1\x0FA", primary, 0x41, cyrillic, 0x41, 0, 0x20, 0, 0x0A, cyrillic, 0x41, cyrillic, 0x41, supplementary, 0x41, primary, 0x41)
	mustRead(t, "\x0FA", primary, 0x41)
	mustRead(t, cyrillicG1+"\x0E\x0F\x0E\x41", cyrillic, 0x41)
	mustRead(t, leftG2+"\x0FA\xC1", primary, 0x41, supplementary, 0x41)
	mustRead(t, cyrillicG1+leftG2+"A\x0EA\xC1", supplementary, 0x41, cyrillic, 0x41, supplementary, 0x41)
	mustRead(t, greekG0+cyrillicG1+"\x0EA\x0FA", cyrillic, 0x41, greek, 0x41)
	mustRead(t, wideG1+"\x24\x0E\x24\x21\x0F\x24", primary, 0x24, japanese, 0x2421, primary, 0x24)
}

// P17.1: what is invoked is a number of G0 to G3, so that a set that is designated later as this one is read.
func TestDesignatedAfterInvoked(t *testing.T) {
	mustRead(t, "\x0E"+cyrillicG1+"A", cyrillic, 0x41)
	mustRead(t, "A"+greekG0+"A\x1B\x28LA", primary, 0x41, greek, 0x41, cyrillic, 0x41)
	mustRead(t, cyrillicG1+"\x0EA\x1B\x29FA", cyrillic, 0x41, greek, 0x41)
	mustRead(t, cyrillicG1+"\x0E"+greekG0+"A", cyrillic, 0x41)
	mustRead(t, "\xC1\x1B\x2AF\xC1A", supplementary, 0x41, greek, 0x41, primary, 0x41)
	mustRead(t, leftG3+rightG3+hebrewG3+"A\xC1", hebrew, 0x41, hebrew, 0x41)
	mustRead(t, rightG1+cyrillicG1+"\xC1", cyrillic, 0x41)
	mustRead(t, leftG2+"A\x1B\x2AFA\xC1", supplementary, 0x41, greek, 0x41, greek, 0x41)
}

// P17.1: a single shift is for one character, from either side, and leaves what is invoked.
func TestSingleShifts(t *testing.T) {
	mustRead(t, "\x19A", supplementary, 0x41)
	mustRead(t, "\x19\xC1", supplementary, 0x41)
	mustRead(t, "A\x19AA\xC1", primary, 0x41, supplementary, 0x41, primary, 0x41, supplementary, 0x41)
	mustRead(t, "\x19!\x19~\x19\xA1\x19\xFE", supplementary, 0x21, supplementary, 0x7E, supplementary, 0x21, supplementary, 0x7E)
	mustRead(t, hebrewG3+"\x1DA\x1D\xC1A\xC1", hebrew, 0x41, hebrew, 0x41, primary, 0x41, supplementary, 0x41)
	mustRead(t, hebrewG3+"\x19A\x1DA\x19\xC1\x1D\xC1", supplementary, 0x41, hebrew, 0x41, supplementary, 0x41, hebrew, 0x41)
	mustRead(t, cyrillicG1+leftG1+"\x19AA", supplementary, 0x41, cyrillic, 0x41)
	mustRead(t, cyrillicG1+rightG1+"\x19\xC1\xC1", supplementary, 0x41, cyrillic, 0x41)
	mustRead(t, "\x1B\x2AF\x19A\x19\xC1A", greek, 0x41, greek, 0x41, primary, 0x41)
	mustRead(t, hebrewG3+leftG3+rightG3+"\x19A\x19\xC1A\xC1", supplementary, 0x41, supplementary, 0x41, hebrew, 0x41, hebrew, 0x41)
}

// P17.1: each byte behind a single shift.
func TestEachByteAfterASingleShift(t *testing.T) {
	for x := range 0x100 {
		place, side := placeOf(x)
		if side == "" {
			mustFail(t, oneG2+one(x), 0, api.ErrBytes)
			mustFail(t, "A"+oneG2+one(x)+"AA", 1, api.ErrBytes)
			mustFail(t, hebrewG3+oneG3+one(x), 3, api.ErrBytes)
			mustFail(t, wideG3+" "+oneG3+one(x)+"\xA1\xA1", 5, api.ErrBytes)
			// The byte is examined ahead of the set, which is not designated.
			mustFail(t, oneG3+one(x), 0, api.ErrBytes)
			continue
		}
		mustRead(t, oneG2+one(x), supplementary, place)
		mustRead(t, "A"+oneG2+one(x)+"AA", primary, 0x41, supplementary, place, primary, 0x41, primary, 0x41)
		mustRead(t, hebrewG3+oneG3+one(x), hebrew, place)
		mustFail(t, oneG3+one(x), 0, api.ErrSet)
	}
}

// P17.1: a single shift that a shift, an escape sequence or nothing follows.
func TestSingleShiftWithoutCharacter(t *testing.T) {
	for _, single := range []string{oneG2, oneG3} {
		for _, state := range []string{"", "A", hebrewG3, wideG2, wideG3, leftG3} {
			mustFail(t, state+single, len(state), api.ErrShort)
			for _, next := range []string{oneG2, oneG3, leftG0, leftG1, rightG2, "\x1B", greekG0, " ", "\r"} {
				mustFail(t, state+single+next, len(state), api.ErrBytes)
				mustFail(t, state+single+next+"AA", len(state), api.ErrBytes)
			}
		}
	}
}

// P17.1: each second byte of an escape sequence, with nothing and with something behind it.
func TestEachSecondByte(t *testing.T) {
	for x := range 0x100 {
		text := "A\x1B" + one(x)
		switch x {
		case 0x21, 0x22, 0x24, 0x28, 0x29, 0x2A, 0x2B:
			mustFail(t, text, 1, api.ErrShort)
		case 0x6E, 0x6F, 0x7C, 0x7D, 0x7E:
			mustRead(t, text, primary, 0x41)
			mustRead(t, text+" ", primary, 0x41, 0, 0x20)
		default:
			mustFail(t, text, 1, api.ErrBytes)
			mustFail(t, text+"B", 1, api.ErrBytes)
			mustFail(t, text+"\x28F\x45H", 1, api.ErrBytes)
		}
	}
}

// P17.1: each third byte behind 21 and 22, which designate control sets without an effect.
func TestControlDesignations(t *testing.T) {
	for _, state := range []string{"", "A", cyrillicG1 + leftG1} {
		for x := range 0x100 {
			for second, end := range map[string]int{"\x21": 0x45, "\x22": 0x48} {
				if x != end {
					mustFail(t, state+"\x1B"+second+one(x), len(state), api.ErrBytes)
					mustFail(t, state+"\x1B"+second+one(x)+"A", len(state), api.ErrBytes)
				}
			}
		}
		mustFail(t, state+"\x1B\x21", len(state), api.ErrShort)
		mustFail(t, state+"\x1B\x22", len(state), api.ErrShort)
	}
	mustRead(t, "\x1B\x21E\x1B\x22H")
	mustRead(t, "A\x1B\x21EA\xC1\x1B\x22HA\xC1", primary, 0x41, primary, 0x41, supplementary, 0x41, primary, 0x41, supplementary, 0x41)
	mustRead(t, cyrillicG1+hebrewG3+leftG1+rightG3+"\x1B\x21E\x1B\x22HA\xC1", cyrillic, 0x41, hebrew, 0x41)
	mustRead(t, wideG0+"\x1B\x21E\x24\x21\x1B\x22H\x24\x21", japanese, 0x2421, japanese, 0x2421)
}

// P17.1: each of the five shifts by an escape sequence invokes its number on its side and leaves the other side.
func TestShiftsBySequences(t *testing.T) {
	all := greekG0 + cyrillicG1 + hebrewG3
	mustRead(t, all+"A\xC1", greek, 0x41, supplementary, 0x41)
	mustRead(t, all+leftG2+"A\xC1", supplementary, 0x41, supplementary, 0x41)
	mustRead(t, all+leftG3+"A\xC1", hebrew, 0x41, supplementary, 0x41)
	mustRead(t, all+rightG1+"A\xC1", greek, 0x41, cyrillic, 0x41)
	mustRead(t, all+rightG2+"A\xC1", greek, 0x41, supplementary, 0x41)
	mustRead(t, all+rightG3+"A\xC1", greek, 0x41, hebrew, 0x41)
	mustRead(t, all+rightG1+rightG2+"A\xC1", greek, 0x41, supplementary, 0x41)
	mustRead(t, all+rightG3+leftG3+"A\xC1"+rightG1+leftG0+"A\xC1", hebrew, 0x41, hebrew, 0x41, greek, 0x41, cyrillic, 0x41)
	mustRead(t, all+leftG1+rightG1+" A \xC1"+leftG2+rightG2+"\xC1A", 0, 0x20, cyrillic, 0x41, 0, 0x20, cyrillic, 0x41, supplementary, 0x41, supplementary, 0x41)
	mustRead(t, all+leftG3+leftG2+"A\xC1", supplementary, 0x41, supplementary, 0x41)
}

// designated returns bytes that read the bytes of a character as one of number g of G0 to G3, from the left.
func designated(g int, character string) string {
	return []string{leftG0, leftG1, leftG2, leftG3}[g] + character
}

// P17.1: each of the four designations, with each final byte, of sets of one byte per character and of wide ones.
func TestEachFinalByte(t *testing.T) {
	narrow := map[int]int{}
	for _, x := range allSets {
		if !x.wide {
			narrow[int(x.final[0])] = x.set
		}
	}
	for g, designator := range designators {
		for x := range 0x100 {
			text := "\x1B" + designator + one(x)
			if set, known := narrow[x]; known {
				mustRead(t, text+designated(g, "A"), set, 0x41)
			} else {
				mustFail(t, "A"+text, 1, api.ErrSet)
				mustFail(t, " A"+text+"A", 2, api.ErrSet)
			}
			text = "\x1B\x24" + designator + one(x)
			if x == 'B' {
				mustRead(t, text+designated(g, "\x24\x21"), japanese, 0x2421)
			} else {
				mustFail(t, "A"+text, 1, api.ErrSet)
				mustFail(t, " A"+text+"A", 2, api.ErrSet)
			}
		}
		mustFail(t, "AA\x1B"+designator, 2, api.ErrShort)
		mustFail(t, "AA\x1B\x24"+designator, 2, api.ErrShort)
	}
	mustFail(t, "AA\x1B\x24", 2, api.ErrShort)
}

// P17.1: each third byte behind 24 but those that designate, with nothing and with something behind it.
func TestEachThirdByteOfWideDesignations(t *testing.T) {
	for x := range 0x100 {
		if 0x28 <= x && x <= 0x2B {
			continue
		}
		mustFail(t, "\x1B\x24"+one(x), 0, api.ErrBytes)
		mustFail(t, "A\x1B\x24"+one(x)+"B", 1, api.ErrBytes)
		mustFail(t, "A\x1B\x24"+one(x)+"\x28B", 1, api.ErrBytes)
	}
}

// P17.1: a designation changes its number of G0 to G3 alone.
func TestDesignationsOfOthersStay(t *testing.T) {
	for g, designator := range designators {
		want := []int{greek, cyrillic, supplementary, hebrew}
		want[g] = ascii
		text := greekG0 + cyrillicG1 + hebrewG3 + "\x1B" + designator + "B"
		var all []int
		for k, set := range want {
			text += designated(k, "A")
			all = append(all, set, 0x41)
		}
		mustRead(t, text, all...)
	}
}

// P17.1: every pair of bytes in a wide set, on the left, on the right and after a single shift.
func TestEveryPairInAWideSet(t *testing.T) {
	for x := range 0x100 {
		first, side := placeOf(x)
		if side == "" {
			continue
		}
		for y := range 0x100 {
			second, other := placeOf(y)
			for _, x := range []struct{ state, text string }{
				{wideG0 + wideG2, one(x) + one(y)}, {wideG3, oneG3 + one(x) + one(y)}, {wideG2, oneG2 + one(x) + one(y)},
			} {
				if other == side {
					mustRead(t, x.state+x.text+" ", japanese, first<<8|second, 0, 0x20)
				} else {
					mustFail(t, x.state+x.text, len(x.state), api.ErrBytes)
					mustFail(t, x.state+" "+x.text+"\x21\x21", len(x.state)+1, api.ErrBytes)
				}
			}
		}
		mustFail(t, wideG0+wideG2+one(x), 8, api.ErrShort)
		mustFail(t, wideG3+"A"+oneG3+one(x), 5, api.ErrShort)
	}
}

// P17.1: characters of a wide set among others.
func TestWideSets(t *testing.T) {
	mustRead(t, wideG0+"\x24\x21\x24\x22 \x25\x76", japanese, 0x2421, japanese, 0x2422, 0, 0x20, japanese, 0x2576)
	mustRead(t, wideG0+"\x24\x21\xC1\x24\x21", japanese, 0x2421, supplementary, 0x41, japanese, 0x2421)
	mustRead(t, wideG2+"\xA4\xA1A\xA4\xA2", japanese, 0x2421, primary, 0x41, japanese, 0x2422)
	mustRead(t, wideG0+wideG2+"\x24\x21\xA4\xA1", japanese, 0x2421, japanese, 0x2421)
	mustRead(t, wideG1+rightG1+"\xA4\xA1A"+leftG1+"\x24\x21", japanese, 0x2421, primary, 0x41, japanese, 0x2421)
	mustRead(t, wideG3+"\x1D\x24\x21A\x1D\xA4\xA1A", japanese, 0x2421, primary, 0x41, japanese, 0x2421, primary, 0x41)
	mustRead(t, wideG2+"\x19\x24\x21A\x19\xA4\xA1A", japanese, 0x2421, primary, 0x41, japanese, 0x2421, primary, 0x41)
	mustRead(t, wideG0+"\x19A\x24\x21", supplementary, 0x41, japanese, 0x2421)
	mustRead(t, wideG0+"\x24\x21\x1B\x28BA", japanese, 0x2421, ascii, 0x41)
	mustRead(t, wideG0+"\x7E\x7E\x21\x21\x21\x7E", japanese, 0x7E7E, japanese, 0x2121, japanese, 0x217E)
	// The final byte is that of set 6 without 24, and of set 87 with it.
	mustRead(t, "\x1B\x28B\x24\x21", ascii, 0x24, ascii, 0x21)
}

// P17.1: nothing may stand between the two bytes of a character.
func TestInterruptedCharacters(t *testing.T) {
	for _, between := range []string{" ", "\n", leftG0, leftG1, oneG2, oneG3, greekG0, leftG2, "\x1B", "\x7F", "\x00", "\xA0", "\xFF"} {
		mustFail(t, "A"+wideG0+"\x24"+between+"\x21", 5, api.ErrBytes)
		mustFail(t, "A"+wideG2+"\xA4"+between+"\xA1", 5, api.ErrBytes)
		mustFail(t, "A"+wideG3+"\x1D\x24"+between+"\x21", 5, api.ErrBytes)
	}
}

// P17.1: characters of G1 and G3, which have no set at first, on each side; to invoke them is no fault.
func TestSetsThatAreNotDesignated(t *testing.T) {
	for _, x := range []struct{ state, character string }{
		{leftG1, "A"}, {leftG3, "A"}, {rightG1, "\xC1"}, {rightG3, "\xC1"}, {"", "\x1DA"}, {"", "\x1D\xC1"},
		{cyrillicG1 + leftG3, "A"}, {cyrillicG1, "\x1DA"}, {hebrewG3 + leftG1, "A"}, {hebrewG3 + rightG1, "\xC1"}, {wideG3 + leftG1, "\x24\x21"},
	} {
		mustFail(t, x.state+x.character, len(x.state), api.ErrSet)
		mustFail(t, x.state+"  "+x.character, len(x.state)+2, api.ErrSet)
		mustFail(t, x.state+" "+x.character+"\x00", len(x.state)+1, api.ErrSet)
	}
	for _, state := range []string{leftG1, leftG3, rightG1, rightG3} {
		mustRead(t, state)
		mustRead(t, state+" "+leftG0+"A"+rightG2+"\xC1", 0, 0x20, primary, 0x41, supplementary, 0x41)
		// The first byte is examined ahead of the set.
		mustFail(t, state+"\x7F", len(state), api.ErrBytes)
		mustFail(t, state+"\xA0", len(state), api.ErrBytes)
		mustFail(t, state+"\xFF", len(state), api.ErrBytes)
	}
	mustRead(t, leftG1+"\xC1"+oneG2+"A", supplementary, 0x41, supplementary, 0x41)
	mustRead(t, rightG3+"A"+oneG2+"\xC1", primary, 0x41, supplementary, 0x41)
}

// P17.1: the first fault counts, with the place at which its token, shift or sequence begins.
func TestFirstFault(t *testing.T) {
	mustFail(t, "A\x00\x1B", 1, api.ErrBytes)
	mustFail(t, "A\x1B\x28A\x00", 1, api.ErrSet)
	mustFail(t, "\x1DA\x00", 0, api.ErrSet)
	mustFail(t, "A\x0EA\x00", 2, api.ErrSet)
	mustFail(t, greekG0+"A\x1B\x24\x2BC\x00", 4, api.ErrSet)
	mustFail(t, wideG0+"\x24\x21\x24\x22\x24", 8, api.ErrShort)
	mustFail(t, wideG0+"\x24\x21\x24\x7F\x24", 6, api.ErrBytes)
	mustFail(t, wideG0+"\x24\x21\x7F\x21\x24", 6, api.ErrBytes)
	mustFail(t, "A B\x19C\x19", 5, api.ErrShort)
	mustFail(t, "A B\x19C\x19\x00", 5, api.ErrBytes)
	mustFail(t, "\x1B\x21E\x1B\x22H\x1B\x21H", 6, api.ErrBytes)
	mustFail(t, "\x1B\x6E\x1B\x7D\x1B\x7F", 4, api.ErrBytes)
	mustFail(t, "\x1B\x1B\x28F", 0, api.ErrBytes)
}

// P17.1: an invalid byte is reported ahead of a missing one.
func TestInvalidAheadOfMissing(t *testing.T) {
	for _, text := range []string{"\x1B\x27", "\x1B\x2C", "\x1B\x23", "\x1B\x24\x27", "\x1B\x24\x2C", "\x1B\x24\x24", "\x1B\x24B", "\x1B\x21H", "\x1B\x22E", "\x1B\x00", "\x1B\x1B", "\x19\x00", "\x1D\x1D"} {
		mustFail(t, text, 0, api.ErrBytes)
	}
	// The set is examined ahead of the second byte, whatever the set would be.
	mustFail(t, leftG1+"\x24", 1, api.ErrSet)
	mustFail(t, leftG1+"\x24\x00", 1, api.ErrSet)
	mustFail(t, "\x1D\x24", 0, api.ErrSet)
	mustFail(t, "\x1D\x24\xA1", 0, api.ErrSet)
}

// P17.1, R1: long strings, right to the end and with a fault there.
func TestLongStrings(t *testing.T) {
	const times = 100000
	part := "aB \xC1\x19A\n" + wideG0 + "\x24\x21\x1B\x28u" + rightG2
	want := tokens(primary, 'a', primary, 'B', 0, 0x20, supplementary, 0x41, supplementary, 0x41, 0, 0x0A, japanese, 0x2421)
	text := strings.Repeat(part, times)
	if l, at, e := shift.Tokens([]byte(text)); !slices.Equal(l, slices.Repeat(want, times)) || at != 0 || e != api.OK {
		t.Errorf("Tokens of %d bytes has %d tokens, %d, %d", len(text), len(l), at, e)
	}
	mustFailAtEnd := func(end string, want api.Errno) {
		t.Helper()
		if l, at, e := shift.Tokens([]byte(text + end)); len(l) != 0 || at != len(text) || e != want {
			t.Errorf("Tokens of %d bytes and % X has %d tokens, %d, %d; want %d", len(text), end, len(l), at, e, want)
		}
	}
	mustFailAtEnd("\x1B", api.ErrShort)
	mustFailAtEnd("\x1B\x28A", api.ErrSet)
	mustFailAtEnd("\x1DA", api.ErrSet)
	mustFailAtEnd("\x7F", api.ErrBytes)
	many := strings.Repeat(leftG1+leftG0+rightG3+rightG2+hebrewG3, times)
	mustRead(t, many+"A\xC1\x1D\x60", primary, 0x41, supplementary, 0x41, hebrew, 0x60)
}

// P17.1: the escape sequence of each set for each of G0 to G3.
func TestEscape(t *testing.T) {
	for g, designator := range designators {
		for _, x := range allSets {
			want := "\x1B" + designator + x.final
			if x.wide {
				want = "\x1B\x24" + designator + x.final
			}
			mustEscape(t, g, x.set, want)
		}
	}
	mustEscape(t, 0, 126, "\x1B\x28\x46")
	mustEscape(t, 1, 103, "\x1B\x29\x76")
	mustEscape(t, 3, 87, "\x1B\x24\x2B\x42")
	mustEscape(t, 3, 6, "\x1B\x2B\x42")
}

// supported reports whether the set is one of those of the chapter before.
func supported(set int) bool {
	for _, x := range allSets {
		if x.set == set {
			return true
		}
	}
	return false
}

// farNumbers are numbers that are neither one of G0 to G3 nor a set.
func farNumbers() []int {
	l := []int{math.MinInt, math.MinInt + 1, math.MinInt32, -0x100, -103, -87, -6, -1, math.MaxInt32, math.MaxUint32, math.MaxInt - 1, math.MaxInt}
	for _, x := range []int{0, 1, 2, 3, 6, 87, 102, 103, 126, 138, 144} {
		for _, bit := range []int{8, 16, 31, 32, 48, 62, 63} {
			l = append(l, x+1<<bit, x-1<<bit)
		}
	}
	return l
}

// P17.1, R1, R4, R5: Escape for sets that are not supported, and for other numbers than those of G0 to G3, which is examined first.
func TestNoEscape(t *testing.T) {
	sets := farNumbers()
	for set := -300; set <= 600; set++ {
		sets = append(sets, set)
	}
	numbers := farNumbers()
	for g := 4; g <= 300; g++ {
		numbers = append(numbers, g, -g)
	}
	for _, set := range sets {
		for g := range 4 {
			if !supported(set) {
				mustNotEscape(t, g, set, api.ErrSet)
			}
		}
		mustNotEscape(t, 4, set, api.ErrArg)
		mustNotEscape(t, -1, set, api.ErrArg)
	}
	for _, g := range numbers {
		for _, set := range []int{102, 87, 0, 165, -1, math.MaxInt} {
			mustNotEscape(t, g, set, api.ErrArg)
		}
	}
}

// R2: the bytes stay as they are, those behind the length too, and the tokens stay when the bytes are changed.
func TestArgumentsStay(t *testing.T) {
	for _, text := range []string{"", "A", "a\xC1 \x19A", wideG0 + "\x24\x21" + leftG2 + "A", "A\x1B\x28A", "\x1DA", "A\x1B", "\x00"} {
		b := append([]byte(text), "BCDEFGH"...)
		kept := bytes.Clone(b)
		l, _, e := shift.Tokens(b[:len(text)])
		if !bytes.Equal(b, kept) {
			t.Errorf("Tokens(% X) changes the bytes to % X", text, b)
		}
		before := slices.Clone(l)
		for i := range b {
			b[i] = 0x7F
		}
		if !slices.Equal(l, before) {
			t.Errorf("the tokens of % X, %d, change with the bytes", text, e)
		}
	}
}

// R2, R3: results that are changed, up to their capacity, change no others.
func TestResultsAreNewMemory(t *testing.T) {
	text := []byte("A\xC1 A")
	one, _, _ := shift.Tokens(text)
	two, _, _ := shift.Tokens(text)
	kept := slices.Clone(two)
	one = one[:cap(one)]
	for i := range one {
		one[i] = api.Token{Set: -1, Place: -1}
	}
	if !slices.Equal(two, kept) {
		t.Errorf("the tokens become %v", two)
	}
	mustRead(t, string(text), primary, 0x41, supplementary, 0x41, 0, 0x20, primary, 0x41)
	for _, x := range allSets {
		for g := range 4 {
			first, _ := shift.Escape(g, x.set)
			second, _ := shift.Escape(g, x.set)
			kept := string(second)
			first = first[:cap(first)]
			for i := range first {
				first[i] = 0xFF
			}
			if string(second) != kept {
				t.Errorf("the sequence of %d becomes % X", x.set, second)
			}
			mustEscape(t, g, x.set, kept)
		}
	}
}

// R6: bytes behind the length are not read, whatever they would complete.
func TestBytesBehindTheLength(t *testing.T) {
	for _, x := range []struct {
		text  string
		n, at int
	}{{"\x1B\x28F", 1, 0}, {"\x1B\x28F", 2, 0}, {"A\x1B\x24\x28B", 3, 1}, {"A\x1B\x24\x28B", 4, 1}, {"\x1B\x21E", 2, 0}, {"\x1B\x22H", 2, 0}, {"\x19A", 1, 0}, {"\x1DA", 1, 0}, {wideG0 + "\x24\x21", 5, 4}, {wideG2 + "\x19\xA4\xA1", 6, 4}} {
		if l, at, e := shift.Tokens([]byte(x.text)[:x.n]); len(l) != 0 || at != x.at || e != api.ErrShort {
			t.Errorf("Tokens of % X up to %d = %v, %d, %d; want none, %d, ErrShort", x.text, x.n, l, at, e, x.at)
		}
	}
	if l, at, e := shift.Tokens([]byte("A\x00")[:1]); !slices.Equal(l, tokens(primary, 0x41)) || at != 0 || e != api.OK {
		t.Errorf("Tokens of A ahead of 00 = %v, %d, %d", l, at, e)
	}
}

// R3: calls in turn and from several goroutines at once do not disturb each other; none keeps what another one designated or invoked.
func TestCallsAtOnce(t *testing.T) {
	var group sync.WaitGroup
	for range 8 {
		group.Go(func() {
			for range 200 {
				mustRead(t, greekG0+cyrillicG1+hebrewG3+leftG1+rightG3+"A\xC1", cyrillic, 0x41, hebrew, 0x41)
				mustRead(t, "A\xC1\x19A", primary, 0x41, supplementary, 0x41, supplementary, 0x41)
				mustRead(t, "\x1B\x2AF\xC1"+leftG2, greek, 0x41)
				mustFail(t, wideG0+"\x24", 4, api.ErrShort)
				mustFail(t, leftG1+"A", 1, api.ErrSet)
				mustFail(t, "\x1DA", 0, api.ErrSet)
				mustEscape(t, 3, 87, "\x1B\x24\x2BB")
				mustNotEscape(t, 4, 87, api.ErrArg)
				mustNotEscape(t, 3, 88, api.ErrSet)
			}
		})
	}
	group.Wait()
}
