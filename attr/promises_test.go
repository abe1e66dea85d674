package attr_test

import (
	"slices"
	"strings"
	"sync"
	"testing"

	"sobriquet/api"
	"sobriquet/attr"
)

const (
	capitals     = "ABCDEFGHIJKLMNOPQRSTUVWXYZ"
	smallLetters = "abcdefghijklmnopqrstuvwxyz"
)

// capital returns the name with capital letters for the small ones among its bytes, looked up in the alphabets.
func capital(name string) string {
	b := []byte(name)
	for i, c := range b {
		if k := strings.IndexByte(smallLetters, c); k >= 0 {
			b[i] = capitals[k]
		}
	}
	return string(b)
}

// known returns the known attribute types by their Names.
func known() map[string]api.Attr {
	all := map[string]api.Attr{}
	for _, a := range types() {
		all[a.Name] = a
	}
	return all
}

// mustLookUpName checks what is returned for a name that may be known or not.
func mustLookUpName(t *testing.T, all map[string]api.Attr, name string) {
	t.Helper()
	if a, isKnown := all[capital(name)]; isKnown {
		mustName(t, name, a)
	} else {
		mustNotName(t, name)
	}
}

// P22.1: each name with each of its letters as a capital and as a small one, in all combinations.
func TestEveryCase(t *testing.T) {
	for _, a := range types() {
		names := []string{""}
		for i := range len(a.Name) {
			var longer []string
			for _, name := range names {
				longer = append(longer, name+a.Name[i:i+1])
				if k := strings.IndexByte(capitals, a.Name[i]); k >= 0 {
					longer = append(longer, name+smallLetters[k:k+1])
				}
			}
			names = longer
		}
		if letters := len(a.Name) - strings.Count(a.Name, "1") - strings.Count(a.Name, "2"); len(names) != 1<<letters {
			t.Errorf("%s has %d spellings", a.Name, len(names))
		}
		for _, name := range names {
			mustName(t, name, a)
		}
	}
}

// P22.1: each name with each byte in the place of each of its bytes, and with each byte more and each of its bytes left out.
func TestEveryByte(t *testing.T) {
	all := known()
	for _, a := range types() {
		for _, name := range []string{a.Name, strings.ToLower(a.Name)} {
			for i := range len(name) {
				mustLookUpName(t, all, name[:i])
				mustLookUpName(t, all, name[i:])
				mustLookUpName(t, all, name[:i]+name[i+1:])
				for c := range 256 {
					mustLookUpName(t, all, name[:i]+string([]byte{byte(c)})+name[i+1:])
					mustLookUpName(t, all, name[:i]+string([]byte{byte(c)})+name[i:])
				}
			}
			for c := range 256 {
				mustLookUpName(t, all, name+string([]byte{byte(c)}))
			}
		}
	}
}

// P22.1: each name with each scalar below 3000 (hexadecimal), and those of full width, in the place of each of its letters.
func TestEveryScalar(t *testing.T) {
	all := known()
	for _, a := range types() {
		for i := range len(a.Name) {
			for c := range rune(0x3000) {
				mustLookUpName(t, all, a.Name[:i]+string(c)+a.Name[i+1:])
			}
			for c := rune(0xFF00); c <= 0xFF60; c++ {
				mustLookUpName(t, all, a.Name[:i]+string(c)+a.Name[i+1:])
			}
		}
	}
}

// P22.1: all names of up to two bytes.
func TestShortNames(t *testing.T) {
	all := known()
	mustLookUpName(t, all, "")
	var group sync.WaitGroup
	for c := range 256 {
		group.Go(func() {
			mustLookUpName(t, all, string([]byte{byte(c)}))
			for d := range 256 {
				mustLookUpName(t, all, string([]byte{byte(c), byte(d)}))
			}
		})
	}
	group.Wait()
}

// P22.1: all names of three letters, digits and some others.
func TestNamesOfThree(t *testing.T) {
	all := known()
	letters := capitals + smallLetters + "012 .-@`[{\x00"
	var group sync.WaitGroup
	for _, x := range []byte(letters) {
		group.Go(func() {
			for _, y := range []byte(letters) {
				for _, z := range []byte(letters) {
					mustLookUpName(t, all, string([]byte{x, y, z}))
				}
			}
		})
	}
	group.Wait()
}

// P22.1: two names together are not known but where they are the name of a third type.
func TestNamesTogether(t *testing.T) {
	all := known()
	for _, a := range types() {
		for _, b := range types() {
			for _, between := range []string{"", " ", ".", "+", ",", "\x00"} {
				mustLookUpName(t, all, a.Name+between+b.Name)
				mustLookUpName(t, all, strings.ToLower(a.Name)+between+b.Name)
			}
		}
	}
}

// R2, R6: the Oid that is given stays, and what stands behind its length is neither read nor changed.
func TestArgumentsStay(t *testing.T) {
	for _, a := range types() {
		for _, more := range [][]int{{0}, {3}, {2, 5, 4, 3}, {-1, 99}} {
			whole := append(slices.Clip(a.Oid), more...)
			before := slices.Clone(whole)
			mustFind(t, whole[:len(a.Oid)], a)
			mustNotFind(t, whole[:len(a.Oid)-1])
			mustNotFind(t, whole)
			if !slices.Equal(whole, before) {
				t.Errorf("the Oid was %d, and is %d", before, whole)
			}
		}
	}
}

// spoil changes a list and its spare capacity.
func spoil(l []int) {
	l = l[:cap(l)]
	for i := range l {
		l[i] = -77
	}
}

// R2: the lists of a result are new memory, which neither the argument, nor other results, nor later ones share.
func TestResultsAreNew(t *testing.T) {
	for _, want := range types() {
		given := slices.Clone(want.Oid)
		byOid, _ := attr.Find(given)
		byName, _ := attr.ByName(want.Name)
		kinds := attr.Kinds(given)
		spoil(given)
		if !areEqual(byOid, want) || !areEqual(byName, want) || !slices.Equal(kinds, want.Kinds) {
			t.Errorf("with the argument changed: %v, %v, %d; want %v", byOid, byName, kinds, want)
		}
		spoil(byOid.Oid)
		if !slices.Equal(byOid.Kinds, want.Kinds) || !areEqual(byName, want) || !slices.Equal(kinds, want.Kinds) {
			t.Errorf("with the Oid of Find changed: %v, %v, %d; want %v", byOid, byName, kinds, want)
		}
		spoil(byOid.Kinds)
		if !areEqual(byName, want) || !slices.Equal(kinds, want.Kinds) {
			t.Errorf("with the Kinds of Find changed: %v, %d; want %v", byName, kinds, want)
		}
		spoil(byName.Kinds)
		if !slices.Equal(byName.Oid, want.Oid) || !slices.Equal(kinds, want.Kinds) {
			t.Errorf("with the Kinds of ByName changed: %v, %d; want %v", byName, kinds, want)
		}
		spoil(byName.Oid)
		spoil(kinds)
		for _, a := range types() {
			mustFind(t, a.Oid, a)
			mustName(t, a.Name, a)
		}
	}
}

// R2: the Kinds of types that are not known are new memory each time.
func TestUnknownKindsAreNew(t *testing.T) {
	for _, oid := range [][]int{nil, {2, 5, 4}, {api.Utf8}, {2, 5, 4, 99}} {
		one, other := attr.Kinds(oid), attr.Kinds(oid)
		spoil(one)
		if !slices.Equal(other, []int{api.Utf8}) {
			t.Errorf("two results of Kinds(%d) share memory", oid)
		}
		spoil(other)
		mustNotFind(t, oid)
	}
}

// R3: calls in turn and from several goroutines at once do not disturb each other.
func TestCallsAtOnce(t *testing.T) {
	var group sync.WaitGroup
	for range 8 {
		group.Go(func() {
			for range 200 {
				for _, a := range types() {
					mustFind(t, a.Oid, a)
					mustName(t, strings.ToLower(a.Name), a)
					mustNotFind(t, a.Oid[1:])
					mustNotName(t, a.Name+"?")
					spoil(attr.Kinds(a.Oid))
					found, _ := attr.Find(a.Oid)
					spoil(found.Oid)
				}
			}
		})
	}
	group.Wait()
}
