package teletex_test

import (
	"bytes"
	"math"
	"slices"
	"strings"
	"sync"
	"testing"

	"sobriquet/api"
	"sobriquet/teletex"
)

// Escape sequences that designate each set as G0.
const (
	primary  = "\x1B\x28u" // 102
	ascii    = "\x1B\x28B" // 6
	greek    = "\x1B\x28F" // 126
	cyrillic = "\x1B\x28L" // 144
	hebrew   = "\x1B\x28H" // 138
	japanese = "\x1B\x24\x28B"
)

// others are the sets that are not G0 at first, by their sequences: a text that only the set has, and the bytes of this character. The first one is 6.
var others = []struct{ set, text, character string }{
	{ascii, "{", "{"}, {greek, "α", "\x61"}, {cyrillic, "Я", "\x4F"}, {hebrew, "א", "\x60"}, {japanese, "あ", "\x24\x22"},
}

// scalars returns the scalars of text.
func scalars(text string) []int {
	var l []int
	for _, r := range text {
		l = append(l, int(r))
	}
	return l
}

// mustRead checks that the bytes mean the scalars of text.
func mustRead(t *testing.T, b, text string) {
	t.Helper()
	if s, at, e := teletex.Read([]byte(b)); !slices.Equal(s, scalars(text)) || at != 0 || e != api.OK {
		t.Errorf("Read(% X) = %#x, %d, %d; want %#x", b, s, at, e, scalars(text))
	}
}

// mustNotRead checks that Read rejects the bytes with the place at and the error want.
func mustNotRead(t *testing.T, b string, at int, want api.Errno) {
	t.Helper()
	if s, got, e := teletex.Read([]byte(b)); len(s) != 0 || got != at || e != want {
		t.Errorf("Read(% X) = %#x, %d, %d; want none, %d, %d", b, s, got, e, at, want)
	}
}

// mustWrite checks that the normal form of text is the bytes of want, and that these are read as text.
func mustWrite(t *testing.T, text, want string) {
	t.Helper()
	s := scalars(text)
	if b, at, e := teletex.Put(s); string(b) != want || at != 0 || e != api.OK {
		t.Errorf("Put(%q) = % X, %d, %d; want % X", text, b, at, e, want)
	}
	mustRead(t, want, text)
	for _, c := range s {
		if !teletex.Has(c) {
			t.Errorf("Has(%#x) is false", c)
		}
	}
}

// mustNotWrite checks that Put rejects s with the index at.
func mustNotWrite(t *testing.T, at int, s ...int) {
	t.Helper()
	if b, got, e := teletex.Put(s); len(b) != 0 || got != at || e != api.ErrNot {
		t.Errorf("Put(%#x) = % X, %d, %d; want none, %d, ErrNot", s, b, got, e, at)
	}
	if teletex.Has(s[at]) {
		t.Errorf("Has(%#x) is true", s[at])
	}
}

// P18.1: the example of the chapter.
func TestExample(t *testing.T) {
	mustWrite(t, "À", "\xC1\x41")
}

// P18.1: nothing is written as nothing and read as nothing.
func TestNothing(t *testing.T) {
	mustWrite(t, "", "")
	if s, at, e := teletex.Read(nil); len(s) != 0 || at != 0 || e != api.OK {
		t.Errorf("Read(nil) = %#x, %d, %d", s, at, e)
	}
	if b, at, e := teletex.Put(nil); len(b) != 0 || at != 0 || e != api.OK {
		t.Errorf("Put(nil) = % X, %d, %d", b, at, e)
	}
}

// P18.1, case 1: the space and the four controls are their bytes, whatever is designated, and leave it.
func TestSpaceAndControls(t *testing.T) {
	mustWrite(t, " ", " ")
	mustWrite(t, "\b\n\f\r \r\f\n\b", "\b\n\f\r \r\f\n\b")
	for _, x := range others {
		mustWrite(t, x.text+" \b\n\f\r"+x.text, x.set+x.character+" \b\n\f\r"+x.character)
	}
	for c := range 0xA1 {
		if (c < 0x20 || c > 0x7E) && !strings.ContainsRune("\b\n\f\r", rune(c)) {
			mustNotWrite(t, 0, c)
			mustNotWrite(t, 1, 'a', c, c)
		}
	}
}

// P18.1, case 2: the set that is designated comes first, even if set 103, an accent or an earlier set has the scalar too.
func TestDesignatedSetFirst(t *testing.T) {
	mustWrite(t, "Az09!|_", "Az09!|_")
	mustWrite(t, "¤#", "\x24#")
	mustWrite(t, "{A$#^`~|\\", ascii+"{A$#^`~|\\")
	mustWrite(t, "αΩ", greek+"\x61\x59")
	mustWrite(t, "ЯАя", cyrillic+"\x4F\x30\x6F")
	mustWrite(t, "את", hebrew+"\x60\x7A")
	mustWrite(t, "あアぁヶ", japanese+"\x24\x22\x25\x22\x24\x21\x25\x76")
}

// P18.1, case 3: set 103 on the right comes ahead of a designation, and leaves what is designated.
func TestRightSet(t *testing.T) {
	mustWrite(t, "$", "\xA4")
	mustWrite(t, "Ω", "\xE0")
	mustWrite(t, "¡¿Æŋß", "\xA1\xBF\xE1\xFE\xFB")
	mustWrite(t, "a$b", "a\xA4b")
	mustWrite(t, "{¤{", ascii+"{\xA8{")
	mustWrite(t, "{Ω", ascii+"{\xE0")
	mustWrite(t, "α#$¤α", greek+"\x61\xA6\xA4\xA8\x61")
	mustWrite(t, "Я#$¤ΩЯ", cyrillic+"\x4F\xA6\xA4\xA8\xE0\x4F")
	mustWrite(t, "אæΩא", hebrew+"\x60\xF1\xE0\x60")
	mustWrite(t, "あ$ßあ", japanese+"\x24\x22\xA4\xFB\x24\x22")
}

// P18.1, case 4: an accent before a space needs no letters, so that nothing is designated.
func TestAccentBeforeSpace(t *testing.T) {
	const all = "`´^~¯˘˙¨˚¸˝˛ˇ"
	const bytes = "\xC1 \xC2 \xC3 \xC4 \xC5 \xC6 \xC7 \xC8 \xCA \xCB \xCD \xCE \xCF "
	mustWrite(t, all, bytes)
	for _, x := range others[1:] {
		mustWrite(t, x.text+all+x.text, x.set+x.character+bytes+x.character)
	}
	// Set 6 has three of them itself.
	mustWrite(t, "{"+all+"{", ascii+"{`\xC2 ^~"+bytes[8:]+"{")
	mustWrite(t, "´ ´", "\xC2  \xC2 ")
	mustWrite(t, "a´e", "a\xC2 e")
}

// P18.1, case 4: an accent before a letter, with each set as G0; 102 and 6 have the letters, otherwise 102 is designated and stays.
func TestAccentBeforeLetter(t *testing.T) {
	mustWrite(t, "Àéîñāăċöåçőąž", "\xC1A\xC2e\xC3i\xC4n\xC5a\xC6a\xC7c\xC8o\xCAa\xCBc\xCDo\xCEa\xCFz")
	mustWrite(t, "aéb", "a\xC2eb")
	mustWrite(t, "{é}", ascii+"{\xC2e}")
	for _, x := range others[1:] {
		before := x.set + x.character
		mustWrite(t, x.text+"é", before+primary+"\xC2e")
		mustWrite(t, x.text+"éèa", before+primary+"\xC2e\xC1ea")
		mustWrite(t, x.text+"é{", before+primary+"\xC2e"+ascii+"{")
		mustWrite(t, x.text+"´éæ"+x.text, before+"\xC2 "+primary+"\xC2e\xF1"+before)
	}
}

// P18.1, case 5: the first set of the table that has the scalar is designated, and stays.
func TestDesignations(t *testing.T) {
	for _, x := range others {
		mustWrite(t, x.text, x.set+x.character)
		mustWrite(t, "a"+x.text, "a"+x.set+x.character)
		for _, y := range others {
			want := y.set + y.character
			if x == y {
				want = y.character
			}
			mustWrite(t, x.text+y.text, x.set+x.character+want)
			mustWrite(t, x.text+" "+y.text, x.set+x.character+" "+want)
		}
	}
	// Set 102 comes ahead of set 6, though both have most of ASCII.
	mustWrite(t, "αa", greek+"\x61"+primary+"a")
	mustWrite(t, "Я|", cyrillic+"\x4F"+primary+"|")
	// Set 6 stays until a scalar is in neither it nor set 103.
	mustWrite(t, "a{b}\\$éα{", "a"+ascii+"{b}\\$\xC2e"+greek+"\x61"+ascii+"{")
	mustWrite(t, "{Aα", ascii+"{A"+greek+"\x61")
}

// P18.1: the index is that of the first number that has no case.
func TestNotWritten(t *testing.T) {
	mustNotWrite(t, 0, 0)
	mustNotWrite(t, 0, 9)
	mustNotWrite(t, 0, 0x7F)
	mustNotWrite(t, 0, 0xA0)
	mustNotWrite(t, 0, 0xA6)
	mustNotWrite(t, 0, 0x6C34)
	mustNotWrite(t, 3, 'a', ' ', 0xE9, 0x20AC, 0x20AC, -1)
	mustNotWrite(t, 2, 0x3B1, 0x42F, 0x301, 'a')
	mustNotWrite(t, 1, '{', 0xD800)
	mustNotWrite(t, 1, 0x3042, api.MaxScalar)
	// A mark, a letter with two marks, one with a mark that no accent has, and one that composition excludes.
	for _, c := range []int{0x300, 0x1EA4, 0x1EA0, 0x212B, 0x2126, 0x212A, 0x1E9, 0x419 + 0x1000} {
		mustNotWrite(t, 1, 'A', c)
	}
}

// P18.1, R1, R5: numbers that are no scalars, among them those that are scalars of the sets but for some bits.
func TestFarNumbers(t *testing.T) {
	l := []int{math.MinInt, math.MinInt + 1, math.MinInt32, -0x110000, -0x41, -0x20, -1, 0xD800, 0xDFFF, api.MaxScalar + 1, math.MaxInt32, math.MaxUint32, math.MaxInt - 1, math.MaxInt}
	for _, c := range []int{0x08, 0x20, 0x41, 0xA1, 0xC0, 0x3B1, 0x3042} {
		for _, bit := range []int{16, 21, 31, 32, 48, 62, 63} {
			l = append(l, c+1<<bit, c-1<<bit)
		}
	}
	for _, c := range l {
		mustNotWrite(t, 0, c)
		mustNotWrite(t, 2, 'A', 0xC0, c, 'B')
	}
}

// P18.1: tokens of Set 0 are their places, wherever they stand but behind an accent.
func TestReadSpaceAndControls(t *testing.T) {
	mustRead(t, " \b\n\f\r", " \b\n\f\r")
	mustRead(t, "\n\x1B\x28F\n\x1B\x6E \x0E\r", "\n\n \r")
	mustRead(t, "\xC1  ", "` ")
}

// P18.1: characters of each set, on each side, after each shift; escape sequences mean nothing themselves.
func TestReadPositions(t *testing.T) {
	mustRead(t, "A\x24#|", "A¤#|")
	mustRead(t, ascii+"A$#{", "A$#{")
	mustRead(t, "\xA4\xA6\xA8\xE0", "$#¤Ω")
	mustRead(t, greek+"\x59\x61", "Ωα")
	mustRead(t, "\x1B\x29L\x0E\x4F\x0FA", "ЯA")
	mustRead(t, "\x1B\x2AH\xE0\x19\x60", "אא")
	mustRead(t, "\x1B\x2BF\x1D\x61\x1D\xE1A", "ααA")
	mustRead(t, "\x1B\x24\x2AB\xA4\xA2A\x19\x25\x22", "あAア")
	mustRead(t, "\x1B\x6E\x24\x71", "$æ")
	mustRead(t, "\x1B\x28v\x24\x71", "$æ")
	mustRead(t, "\x1B\x21E\x1B\x22H", "")
	mustRead(t, "\x1B\x7C\x1B\x2Bu\xC1", "A")
	// The same scalar from two sets, and different ones from the same byte.
	mustRead(t, "A"+ascii+"A", "AA")
	mustRead(t, "$"+ascii+"$"+primary+"$", "¤$¤")
	mustRead(t, "a"+greek+"a"+cyrillic+"a"+hebrew+"a"+ascii+"a", "aαсבa")
}

// P18.1: positions that the table does not have are an error, with the index of the token.
func TestReadUnknownPositions(t *testing.T) {
	for _, b := range []string{"\x5C", "\x5E", "\x60", "{", "}", "~", "\xA9", "\xAA", "\xBA", "\xC0", "\xC9", "\xCC", "\xD0", "\xDF", "\xE5", "\x19\x49"} {
		mustNotRead(t, b, 0, api.ErrRepertoire)
		mustNotRead(t, "a "+b, 2, api.ErrRepertoire)
		mustNotRead(t, "\xC1A\x1B\x21E\x19\x24"+b+" ", 3, api.ErrRepertoire)
	}
	mustNotRead(t, greek+"\x40", 0, api.ErrRepertoire)
	mustNotRead(t, greek+"\x61\x52\x40", 1, api.ErrRepertoire)
	mustNotRead(t, cyrillic+"\x2D", 0, api.ErrRepertoire)
	mustNotRead(t, hebrew+"\x41", 0, api.ErrRepertoire)
	mustNotRead(t, hebrew+"\x60\x7B", 1, api.ErrRepertoire)
	mustNotRead(t, japanese+"\x24\x22\x24\x74", 1, api.ErrRepertoire)
	mustNotRead(t, japanese+"\x21\x21", 0, api.ErrRepertoire)
	mustNotRead(t, "\x1B\x24\x2AB\xA4\xA2\xA5\xF7", 1, api.ErrRepertoire)
}

// P18.1: accents before a space and before letters of the sets 102 and 6, from wherever these and the accent come.
func TestReadAccents(t *testing.T) {
	mustRead(t, "\xC1A\xC1 \xC2e\xC2 ", "À`é´")
	mustRead(t, "\xC3 \xC4 \xC5 \xC6 \xC7 \xC8 \xCA \xCB \xCD \xCE \xCF ", "^~¯˘˙¨˚¸˝˛ˇ")
	mustRead(t, ascii+"\xC1A\xC2z\xC3 ", "Àź^")
	mustRead(t, "\xC1"+ascii+"A", "À")
	mustRead(t, ascii+"\xC1"+primary+"A", "À")
	mustRead(t, "\xC1\x1B\x21E\x1B\x22H\x0FA", "À")
	mustRead(t, "\xC1"+greek+" \x61", "`α")
	mustRead(t, "\x19\x41A\x19\xC2e", "Àé")
	mustRead(t, "\x1B\x6E\x41\x0FA", "À")
	mustRead(t, "\x1B\x2Bv\x1D\x41A\x1D\xC2e", "Àé")
	mustRead(t, "\x1B\x28v\x41\x1B\x29u\x1B\x7E\xC1", "À")
	mustRead(t, "\xC1\x1B\x2Au\xC1A", "ÀA")
	mustRead(t, "\xC2\x1B\x2AB\xE5", "é")
	mustRead(t, "\x1B\x29B\xC8\x0Eu\xC8\x0Fo", "üö")
}

// P18.1: an accent before something that does not take it is an error, with the index of the accent.
func TestReadAccentsThatAreNotTaken(t *testing.T) {
	for _, b := range []string{
		"\xC1b", "\xC1Q", "\xC8q", "\xCBa", "\xCDa", // letters that have no Pair with the mark
		"\xC11", "\xC1!", "\xC1@", "\xC1[", "\xC1\x24", "\xC1|", // no letters
		"\xC1{", "\xC1\x60", "\xC1" + ascii + "{", // nor these, with a position and without
		"\xC1\n", "\xC1\b", "\xC1\f", "\xC1\r", // controls
		"\xC1\xC1", "\xC1\xC1A", "\xC1\xC2 ", "\xC1\xC9", "\xC1\xA4", "\xC1\xF1", // set 103
		"\xC8" + greek + "\x49", "\xC2" + greek + "\x61", "\xC1" + greek + "\x41", "\xC8" + cyrillic + "\x35", "\xC1" + cyrillic + "\x41", "\xC1" + hebrew + "\x41", "\xC1" + japanese + "\x41\x41", "\xC1" + japanese + "\x24\x22",
	} {
		mustNotRead(t, b, 0, api.ErrRepertoire)
		mustNotRead(t, b+" ", 0, api.ErrRepertoire)
		mustNotRead(t, "a\xC1A "+b, 4, api.ErrRepertoire)
		mustNotRead(t, "\xC2 "+b+"\xC1", 2, api.ErrRepertoire)
	}
	// Positions of other sets at which set 103 has an accent are none.
	mustNotRead(t, hebrew+"\x41 ", 0, api.ErrRepertoire)
	mustRead(t, greek+"\x41 ", "Α ")
	mustRead(t, "\x41 ", "A ")
}

// P18.1: an accent at the end is an error, with its index.
func TestReadAccentAtEnd(t *testing.T) {
	mustNotRead(t, "\xC1", 0, api.ErrShort)
	mustNotRead(t, "a \xCF", 2, api.ErrShort)
	mustNotRead(t, "\xC1A\xC1", 2, api.ErrShort)
	mustNotRead(t, "\xC1 \xC2", 2, api.ErrShort)
	mustNotRead(t, "\xC1\x1B\x28F", 0, api.ErrShort)
	mustNotRead(t, "ab\x19\x41\x0F", 2, api.ErrShort)
	mustNotRead(t, japanese+"\x24\x22\xC2", 1, api.ErrShort)
	mustNotRead(t, "{\xC1", 0, api.ErrRepertoire)
	mustNotRead(t, "\xC1\n\xC1", 0, api.ErrRepertoire)
}

// P18.1: the errors of the bytes come first, with their offset, wherever the others stand.
func TestReadErrorsOfBytesFirst(t *testing.T) {
	mustNotRead(t, "{\x00", 1, api.ErrBytes)
	mustNotRead(t, "\xC1\x00", 1, api.ErrBytes)
	mustNotRead(t, "\xC1\x1B\x28", 1, api.ErrShort)
	mustNotRead(t, "\xC1b\x1B\x28A", 2, api.ErrSet)
	mustNotRead(t, "\xC9\x0EA", 2, api.ErrSet)
	mustNotRead(t, japanese+"\x21\x21\x24", 6, api.ErrShort)
	mustNotRead(t, greek+"\x61\x61\x7F", 5, api.ErrBytes)
	mustNotRead(t, greek+"\x61 \x1D\x61", 5, api.ErrSet)
	// Without them the place is an index, which shifts and wide characters do not count for.
	mustNotRead(t, greek+"\x61\x61\x52", 2, api.ErrRepertoire)
	mustNotRead(t, japanese+"\x24\x22\x24\x22\x21\x21", 2, api.ErrRepertoire)
}

// P18.1: of several faults of the meaning the first one counts.
func TestReadFirstFault(t *testing.T) {
	mustNotRead(t, "a{\xC1b\xC1", 1, api.ErrRepertoire)
	mustNotRead(t, "a\xC1b{\xC1", 1, api.ErrRepertoire)
	mustNotRead(t, "\xC1\xC1", 0, api.ErrRepertoire)
	mustNotRead(t, "\xC1 \xC1\xC1", 2, api.ErrRepertoire)
}

// P18.2: strings that are not the normal form become it, and stay it.
func TestNormalForms(t *testing.T) {
	for _, x := range []struct{ b, want string }{
		{ascii + "a$\xC1A", "a\xA4\xC1A"},
		{ascii + "{a", ascii + "{a"},
		{"\x1B\x7C\x1B\x2Bu\xC1", "A"},
		{"\xC1" + ascii + "A" + greek, "\xC1A"},
		{"\xA8\x24", "\x24\x24"},
		{"\xA6", "#"},
		{greek + "\x59", "\xE0"},
		{greek + "\x61\xE0\xA4", greek + "\x61\x59\xA4"},
		{ascii + "`^~", "\xC1 \xC3 \xC4 "},
		{ascii + "{\xC1 ", ascii + "{`"},
		{"\x1B\x29L\x0E\x4F\x0FA\x0E\x4F", cyrillic + "\x4F" + primary + "A" + cyrillic + "\x4F"},
		{"\x1B\x24\x2AB\xA4\xA2A", japanese + "\x24\x22" + primary + "A"},
		{greek + "\x61" + ascii + "\xC2e", greek + "\x61" + primary + "\xC2e"},
		{" \x0F", " "},
	} {
		for _, b := range []string{x.b, x.want} {
			s, _, e := teletex.Read([]byte(b))
			got, _, fault := teletex.Put(s)
			if string(got) != x.want || e != api.OK || fault != api.OK {
				t.Errorf("% X is read as %#x, %d, and written as % X, %d; want % X", b, s, e, got, fault, x.want)
			}
		}
	}
}

// P18.1, P18.2, R1: long lists and strings, right to the end and with a fault there.
func TestLong(t *testing.T) {
	const times = 50000
	text, b := strings.Repeat("aé α$あ{", times), "a\xC2e "+greek+"\x61\xA4"+japanese+"\x24\x22"+ascii+"{"
	want := b + strings.Repeat(b, times-1)
	// From the second time on, set 6 is designated at the beginning.
	s := scalars(text)
	got, at, e := teletex.Put(s)
	if string(got) != want || at != 0 || e != api.OK {
		t.Errorf("Put of %d scalars has %d bytes, %d, %d; want %d", len(s), len(got), at, e, len(want))
	}
	back, at, e := teletex.Read(got)
	if !slices.Equal(back, s) || at != 0 || e != api.OK {
		t.Errorf("Read of %d bytes has %d scalars, %d, %d; want %d", len(got), len(back), at, e, len(s))
	}
	if b, at, e := teletex.Put(append(s, 0)); len(b) != 0 || at != len(s) || e != api.ErrNot {
		t.Errorf("Put of %d scalars and 0 has %d bytes, %d, %d", len(s), len(b), at, e)
	}
	for end, fault := range map[string]api.Errno{"\xC2": api.ErrShort, "\xC2b": api.ErrRepertoire, "\xC9": api.ErrRepertoire} {
		// Each é has two tokens.
		if s, at, e := teletex.Read(append(bytes.Clone(got), end...)); len(s) != 0 || at != 8*times || e != fault {
			t.Errorf("Read of %d bytes and % X has %d scalars, %d, %d; want %d, %d", len(got), end, len(s), at, e, 8*times, fault)
		}
	}
	if s, at, e := teletex.Read(append(bytes.Clone(got), 0x7F)); len(s) != 0 || at != len(got) || e != api.ErrBytes {
		t.Errorf("Read of %d bytes and 7F has %d scalars, %d, %d", len(got), len(s), at, e)
	}
}

// R2: arguments stay as they are, also behind their length, and results stay when the arguments are changed.
func TestArgumentsStay(t *testing.T) {
	for _, text := range []string{"", "a", "aé α$あ{", "a\x00", "éé"} {
		s := append(scalars(text), 'x', 'y', 'z')
		kept := slices.Clone(s)
		n := len(s) - 3
		b, _, _ := teletex.Put(s[:n])
		if !slices.Equal(s, kept) {
			t.Errorf("Put(%q) changes the scalars to %#x", text, s)
		}
		before := bytes.Clone(b)
		for i := range s {
			s[i] = -1
		}
		if !bytes.Equal(b, before) {
			t.Errorf("the bytes of %q change with the scalars", text)
		}
	}
	for _, text := range []string{"", "A", "a\xC1A" + greek + "\x61", "a{", "\xC1b", "a\xC1", "\x00"} {
		b := append([]byte(text), "ABC"...)
		kept := bytes.Clone(b)
		s, _, _ := teletex.Read(b[:len(text)])
		if !bytes.Equal(b, kept) {
			t.Errorf("Read(% X) changes the bytes to % X", text, b)
		}
		before := slices.Clone(s)
		for i := range b {
			b[i] = 0xFF
		}
		if !slices.Equal(s, before) {
			t.Errorf("the scalars of % X change with the bytes", text)
		}
	}
}

// R2, R3: results that are changed, up to their capacity, change no others.
func TestResultsAreNewMemory(t *testing.T) {
	for _, text := range []string{"a", " ", "é", "$", "α", "あ", "aé α$あ{αéαé"} {
		b, _, _ := teletex.Put(scalars(text))
		kept := string(b)
		again, _, _ := teletex.Put(scalars(text))
		again = again[:cap(again)]
		for i := range again {
			again[i] = 0xFF
		}
		s, _, _ := teletex.Read(b)
		s = s[:cap(s)]
		for i := range s {
			s[i] = -1
		}
		if string(b) != kept {
			t.Errorf("the bytes of %q become % X", text, b)
		}
		mustWrite(t, text, kept)
	}
}

// R6: what stands behind the length is not read, whatever it would complete.
func TestBehindTheLength(t *testing.T) {
	if s, at, e := teletex.Read([]byte("a\xC1A")[:2]); len(s) != 0 || at != 1 || e != api.ErrShort {
		t.Errorf("Read of an accent ahead of the end = %#x, %d, %d", s, at, e)
	}
	if s, at, e := teletex.Read([]byte("aé\x00")[:1]); !slices.Equal(s, []int{'a'}) || at != 0 || e != api.OK {
		t.Errorf("Read of a = %#x, %d, %d", s, at, e)
	}
	if b, at, e := teletex.Put([]int{'a', 0}[:1]); string(b) != "a" || at != 0 || e != api.OK {
		t.Errorf("Put of a ahead of 0 = % X, %d, %d", b, at, e)
	}
}

// R3: calls in turn and from several goroutines at once do not disturb each other; what one designates, no other one keeps.
func TestCallsAtOnce(t *testing.T) {
	var group sync.WaitGroup
	for range 8 {
		group.Go(func() {
			for range 20 {
				mustWrite(t, "αé", greek+"\x61"+primary+"\xC2e")
				mustWrite(t, "aα", "a"+greek+"\x61")
				mustWrite(t, "{$", ascii+"{$")
				mustWrite(t, "$", "\xA4")
				mustNotWrite(t, 1, 0x3B1, 0)
				mustRead(t, greek+"\x61", "α")
				mustRead(t, "\x61", "a")
				mustNotRead(t, "\xC1", 0, api.ErrShort)
				mustNotRead(t, "\xC1b", 0, api.ErrRepertoire)
			}
		})
	}
	group.Wait()
}
