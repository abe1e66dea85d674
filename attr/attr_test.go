package attr_test

import (
	"math"
	"slices"
	"strings"
	"testing"

	"sobriquet/api"
	"sobriquet/attr"
)

// types returns the known attribute types, written out here once more.
func types() []api.Attr {
	directory := func() []int { return []int{19, 12, 20, 30, 28} }
	return []api.Attr{
		{Oid: []int{2, 5, 4, 3}, Name: "CN", Rule: 1, Kinds: directory()},
		{Oid: []int{2, 5, 4, 4}, Name: "SN", Rule: 1, Kinds: directory()},
		{Oid: []int{2, 5, 4, 5}, Name: "SERIALNUMBER", Rule: 1, Kinds: []int{19}},
		{Oid: []int{2, 5, 4, 6}, Name: "C", Rule: 1, Kinds: []int{19}},
		{Oid: []int{2, 5, 4, 7}, Name: "L", Rule: 1, Kinds: directory()},
		{Oid: []int{2, 5, 4, 8}, Name: "ST", Rule: 1, Kinds: directory()},
		{Oid: []int{2, 5, 4, 9}, Name: "STREET", Rule: 1, Kinds: directory()},
		{Oid: []int{2, 5, 4, 10}, Name: "O", Rule: 1, Kinds: directory()},
		{Oid: []int{2, 5, 4, 11}, Name: "OU", Rule: 1, Kinds: directory()},
		{Oid: []int{2, 5, 4, 24}, Name: "X121", Rule: 3, Kinds: []int{18}},
		{Oid: []int{0, 9, 2342, 19200300, 100, 1, 1}, Name: "UID", Rule: 1, Kinds: directory()},
		{Oid: []int{0, 9, 2342, 19200300, 100, 1, 25}, Name: "DC", Rule: 2, Kinds: []int{22}},
		{Oid: []int{1, 2, 840, 113549, 1, 9, 1}, Name: "E", Rule: 2, Kinds: []int{22}},
	}
}

// isZero reports whether no field of a says anything.
func isZero(a api.Attr) bool {
	return len(a.Oid) == 0 && a.Name == "" && a.Rule == 0 && len(a.Kinds) == 0
}

// areEqual reports whether a and b are the same in all fields.
func areEqual(a, b api.Attr) bool {
	return slices.Equal(a.Oid, b.Oid) && a.Name == b.Name && a.Rule == b.Rule && slices.Equal(a.Kinds, b.Kinds)
}

// mustFind checks what the calls that take an Oid return for one that is known.
func mustFind(t *testing.T, oid []int, want api.Attr) {
	t.Helper()
	if got, ok := attr.Find(oid); !ok || !areEqual(got, want) {
		t.Errorf("Find(%d) = %v, %t; want %v", oid, got, ok, want)
	}
	if got := attr.Rule(oid); got != want.Rule {
		t.Errorf("Rule(%d) = %d; want %d", oid, got, want.Rule)
	}
	if got := attr.Kinds(oid); !slices.Equal(got, want.Kinds) {
		t.Errorf("Kinds(%d) = %d; want %d", oid, got, want.Kinds)
	}
}

// mustNotFind checks what the calls that take an Oid return for one that is not known.
func mustNotFind(t *testing.T, oid []int) {
	t.Helper()
	if got, ok := attr.Find(oid); ok || !isZero(got) {
		t.Errorf("Find(%d) = %v, %t; want none", oid, got, ok)
	}
	if got := attr.Rule(oid); got != api.RuleIgnore {
		t.Errorf("Rule(%d) = %d; want RuleIgnore", oid, got)
	}
	if got := attr.Kinds(oid); !slices.Equal(got, []int{api.Utf8}) {
		t.Errorf("Kinds(%d) = %d; want Utf8 alone", oid, got)
	}
}

// mustName checks that the name is that of an attribute type.
func mustName(t *testing.T, name string, want api.Attr) {
	if got, ok := attr.ByName(name); !ok || !areEqual(got, want) {
		t.Helper()
		t.Errorf("ByName(%+q) = %v, %t; want %v", name, got, ok, want)
	}
}

// mustNotName checks that the name is that of no attribute type.
func mustNotName(t *testing.T, name string) {
	if got, ok := attr.ByName(name); ok || !isZero(got) {
		t.Helper()
		t.Errorf("ByName(%+q) = %v, %t; want none", name, got, ok)
	}
}

// P22.1: the example of the chapter.
func TestExample(t *testing.T) {
	if got, ok := attr.ByName("cn"); !ok || !slices.Equal(got.Oid, []int{2, 5, 4, 3}) {
		t.Errorf("ByName(cn) = %v, %t", got, ok)
	}
}

// P22.1, P22.2: each attribute type, by its Oid and by its Name.
func TestTypes(t *testing.T) {
	for _, want := range types() {
		mustFind(t, want.Oid, want)
		mustName(t, want.Name, want)
	}
}

// P22.2: the table of package api has these types and no others, each with an Oid and a Name of its own.
func TestTypesOfTheTable(t *testing.T) {
	table := api.Attrs()
	if !slices.EqualFunc(table, types(), areEqual) {
		t.Errorf("the table is %v; want %v", table, types())
	}
	for _, a := range table {
		mustFind(t, a.Oid, a)
		mustName(t, a.Name, a)
		byOid, _ := attr.Find(a.Oid)
		if byName, ok := attr.ByName(byOid.Name); !ok || !areEqual(byName, byOid) {
			t.Errorf("%d is %v, and %s is %v, %t", a.Oid, byOid, byOid.Name, byName, ok)
		}
		if back, ok := attr.Find(byOid.Oid); !ok || !areEqual(back, byOid) {
			t.Errorf("%d is %v, and %d is %v, %t", a.Oid, byOid, byOid.Oid, back, ok)
		}
	}
}

// P22.1: Oids that are not known, some of them none at all.
func TestUnknownOids(t *testing.T) {
	for _, oid := range [][]int{
		nil, {}, make([]int, 0, 4), {0}, {2}, {3}, {-1}, {2, 5}, {2, 5, 4}, {5, 4, 3}, {4, 3}, {3, 4, 5, 2},
		{2, 5, 4, 0}, {2, 5, 4, 1}, {2, 5, 4, 2}, {2, 5, 4, 12}, {2, 5, 4, 23}, {2, 5, 4, 25}, {2, 5, 4, 41}, {2, 5, 4, 5000},
		{2, 5, 4, -3}, {-2, -5, -4, -3}, {2, 5, 4, 3, 0}, {0, 2, 5, 4, 3}, {2, 5, 4, 3, 2, 5, 4, 4}, {2, 5, 0, 4, 3},
		{85, 4, 3}, {25, 4, 3}, {2, 543}, {0x55, 0x04, 0x03}, {2, 5, 4, 97}, {2, 5, 29, 17}, {1, 2, 840, 113549, 1, 9}, {1, 2, 840, 113549, 1, 9, 2},
		{0, 9, 2342, 19200300, 100, 1}, {0, 9, 2342, 19200300, 100, 1, 0}, {0, 9, 2342, 19200300, 100, 1, 3}, {0, 9, 2342, 19200300, 100, 4, 1},
		{math.MaxInt}, {math.MinInt, 5, 4, 3}, {2, 5, 4, math.MaxInt}, {2, 5, 4, math.MinInt}, {0, 0, 0, 0}, {0, 0, 0, 0, 0, 0, 0},
	} {
		mustNotFind(t, oid)
	}
}

// nearArcs returns numbers beside arc, and numbers that have its lowest bits.
func nearArcs(arc int) []int {
	l := []int{arc - 1, arc + 1, arc - 2, arc + 2, -arc - 1, ^arc, math.MinInt, math.MaxInt}
	for _, shift := range []int{3, 4, 5, 7, 8, 14, 15, 16, 21, 24, 31, 32, 33, 48, 53, 62, 63} {
		l = append(l, arc+1<<shift, arc-1<<shift)
	}
	return l
}

// P22.1: Oids that differ from a known one in one arc, whichever it is.
func TestOneArcOther(t *testing.T) {
	for _, a := range types() {
		for i := range a.Oid {
			for _, arc := range nearArcs(a.Oid[i]) {
				oid := slices.Clone(a.Oid)
				oid[i] = arc
				mustLookUp(t, oid)
			}
		}
	}
}

// P22.1: Oids that have an arc more or less than a known one, wherever it is, or two arcs exchanged.
func TestArcsMoreAndLess(t *testing.T) {
	for _, a := range types() {
		for i := range len(a.Oid) + 1 {
			for _, arc := range []int{0, 1, 2, 3, 5, -1, 128, math.MaxInt} {
				mustLookUp(t, slices.Insert(slices.Clone(a.Oid), i, arc))
			}
			mustLookUp(t, slices.Clone(a.Oid[:i]))
			mustLookUp(t, slices.Clone(a.Oid[i:]))
			for j := range min(i, len(a.Oid)-1) {
				mustLookUp(t, slices.Delete(slices.Clone(a.Oid), j, j+1))
				oid := slices.Clone(a.Oid)
				oid[j], oid[j+1] = oid[j+1], oid[j]
				mustLookUp(t, oid)
			}
		}
	}
}

// mustLookUp checks what is returned for an Oid that may be known or not.
func mustLookUp(t *testing.T, oid []int) {
	t.Helper()
	for _, a := range types() {
		if slices.Equal(a.Oid, oid) {
			mustFind(t, oid, a)
			return
		}
	}
	mustNotFind(t, oid)
}

// P22.1: all Oids under 2.5 with arcs from below 0 to above those of the table.
func TestOidsOfTheDirectory(t *testing.T) {
	for arc := -20; arc <= 40; arc++ {
		for last := -300; last <= 300; last++ {
			mustLookUp(t, []int{2, 5, arc, last})
		}
	}
}

// P22.1: all Oids of up to five arcs of a few numbers.
func TestShortOids(t *testing.T) {
	arcs := []int{-1, 0, 1, 2, 3, 4, 5, 9}
	list := [][]int{{}}
	for range 6 {
		var longer [][]int
		for _, oid := range list {
			mustLookUp(t, oid)
			for _, arc := range arcs {
				longer = append(longer, append(slices.Clip(oid), arc))
			}
		}
		list = longer
	}
}

// P22.1: names by which a type is found, in letters of either case.
func TestNames(t *testing.T) {
	for want, names := range map[string][]string{
		"CN":           {"CN", "cn", "Cn", "cN"},
		"SN":           {"SN", "sn", "Sn", "sN"},
		"SERIALNUMBER": {"SERIALNUMBER", "serialnumber", "serialNumber", "SerialNumber", "sERIALNUMBEr"},
		"C":            {"C", "c"},
		"L":            {"L", "l"},
		"ST":           {"ST", "st", "St", "sT"},
		"STREET":       {"STREET", "street", "Street", "streeT"},
		"O":            {"O", "o"},
		"OU":           {"OU", "ou", "Ou", "oU"},
		"X121":         {"X121", "x121"},
		"UID":          {"UID", "uid", "Uid", "uId", "uiD", "UId", "uID"},
		"DC":           {"DC", "dc", "Dc", "dC"},
		"E":            {"E", "e"},
	} {
		for _, name := range names {
			mustName(t, name, known()[want])
		}
	}
}

// P22.1: names that no type has, some of which other ways to compare letters would take for one.
func TestUnknownNames(t *testing.T) {
	for _, name := range []string{
		"", " ", "cn ", " cn", "c n", "C\tN", "cn\x00", "\x00cn", "c\x00n", "\x00", "CNN", "CCN", "NC", "N", "S", "T", "U", "D", "I", "X", "EE", "UI", "ID", "STREE", "TREET", "SERIALNUMBE", "serial number", "serial-number",
		"commonName", "surname", "countryName", "localityName", "street address", "organizationName", "domainComponent", "userId", "emailAddress", "email", "x121Address", "X12", "X1211", "X-121", "121", "x122",
		"2.5.4.3", "OID.2.5.4.3", "oid.2.5.4.3", "2 5 4 3", "CN=", "=CN", "CN=x", "CN,SN", "\"CN\"", "#CN", "#N", "(c)",
		// Letters that Unicode folds to those of a name or that stand for them in other forms.
		"\u017FN", "\u017Fn", "\u017FT", "\u017Ft", "\u017FTREET", "\u017FERIALNUMBER", "SER\u0131ALNUMBER", "ser\u0131alnumber", "SER\u0130ALNUMBER", "U\u0131D", "u\u0131d", "U\u0130D", "u\u0130d", "ui\u0307d",
		"\uFF23\uFF2E", "\uFF43\uFF4E", "\uFF23", "\uFF4C", "\u216D", "\u217D", "\u216C", "\u212F", "\u2107", "\u0421N", "\u0421", "\u041E", "\u039F", "\u0395", "\u24B8", "\uFB06", "\uFB06reet", "\u2102", "\U0001D402", "X\u00B9\u00B21", "x\uFF11\uFF12\uFF11", "X\u0661\u0662\u0661",
		"c\u00ADn", "\u200Bcn", "\uFEFFcn", "c\u0301", "\u0107", "\u00E7", "\u00C9", "\u00E9", "\u00D3", "\u00F3", "o\u0308", "\u00A0cn",
		// Bytes that are no UTF-8, and those of a name with a bit more or less.
		"c\x8E", "\xC3N", "\xE3", "\xC3", "\xC3\xCE", "\xE3\xEE", "\xFF", "\x80", "cn\x80", "cn\xFF", "\x03", "\x23", "\x03\x0E", "\x23\x2E", "X\x11\x12\x11", "x\x11\x12\x11", "XQRQ", "Xqrq", "X\xB1\xB2\xB1", "\xF8121", "\x18121", "8121", "C.", "c.", "\x0F", "/", "\x05", "%", "\x0C", ",",
		"c\x00", "\x00C\x00N", "\x00C", "\x0C\x02CN", "\x13\x02CN",
	} {
		mustNotName(t, name)
	}
}

// P22.1, R1, R7: long Oids and long names, which begin or end with a known one.
func TestLong(t *testing.T) {
	for _, a := range types() {
		mustNotFind(t, slices.Repeat(a.Oid, 100000))
		mustNotFind(t, slices.Concat(a.Oid, make([]int, 1000000)))
		mustNotFind(t, slices.Concat(make([]int, 1000000), a.Oid))
		mustNotName(t, strings.Repeat(a.Name, 100000))
		mustNotName(t, a.Name+strings.Repeat(" ", 1000000))
		mustNotName(t, strings.Repeat("\x00", 1000000)+a.Name)
		mustNotName(t, strings.Repeat("\u017F", 1000000))
	}
}
