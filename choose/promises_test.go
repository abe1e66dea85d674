package choose_test

import (
	"runtime/debug"
	"slices"
	"sync"
	"testing"

	"sobriquet/api"
	"sobriquet/choose"
	"sobriquet/str"
)

// TestMain lets memory be collected less often: Teletex strings make tables that nothing keeps.
func TestMain(m *testing.M) {
	debug.SetGCPercent(2000)
	m.Run()
}

// eachList calls f with every list of items of the alphabet that begins with l and fills its capacity.
func eachList[T any](alphabet, l []T, f func([]T)) {
	if len(l) == cap(l) {
		f(l)
		return
	}
	for _, x := range alphabet {
		eachList(alphabet, append(l, x), f)
	}
}

// eachOrder calls f with the items of l in every order.
func eachOrder(l []int, f func([]int)) {
	var order func(done int)
	order = func(done int) {
		if done == len(l) {
			f(l)
			return
		}
		for i := done; i < len(l); i++ {
			l[done], l[i] = l[i], l[done]
			order(done + 1)
			l[done], l[i] = l[i], l[done]
		}
	}
	order(0)
}

// P20.1, R6: all lists of up to three kinds and numbers that are none, some of them named twice.
func TestShortLists(t *testing.T) {
	some := append([]int{0, api.Numeric + 1<<32}, kinds...)
	var group sync.WaitGroup
	for _, x := range samples() {
		group.Go(func() {
			for length := range 4 {
				eachList(some, make([]int, 0, length), func(list []int) { x.mustChoose(t, list) })
			}
		})
	}
	group.Wait()
}

// P20.1, R6: some of the kinds in every order.
func TestEveryOrder(t *testing.T) {
	var group sync.WaitGroup
	for _, x := range samples() {
		for _, some := range [][]int{
			{api.Utf8, api.Teletex, api.Bmp, api.Universal, api.Printable},
			{api.Numeric, api.Printable, api.Visible, api.Ia5, 0, api.Bmp},
			{api.Universal, api.Universal, api.Utf8, api.Bmp, -1, api.Visible},
		} {
			group.Go(func() { eachOrder(some, func(list []int) { x.mustChoose(t, list) }) })
		}
	}
	group.Wait()
}

// P20.1, R6: all eight kinds, each of them first, with the others in some orders behind it.
func TestAllKinds(t *testing.T) {
	for _, x := range samples() {
		list := slices.Clone(kinds)
		for range kinds {
			list = append(list[1:], list[0])
			x.mustChoose(t, list)
			back := slices.Clone(list)
			slices.Reverse(back)
			x.mustChoose(t, back)
		}
	}
}

// mustKeep checks that what fits is encoded and decoded, and that what does not fit is not encoded or is empty.
func mustKeep(t *testing.T, kind int, s []int) {
	b, _, fault := str.Encode(kind, s)
	if choose.Fits(kind, s) != (fault == api.OK && len(s) > 0) {
		t.Errorf("Fits(%d, %#x) is %t, and the error of Encode is %d", kind, s, choose.Fits(kind, s), fault)
	}
	want, e := kind, api.OK
	switch {
	case len(s) == 0:
		want, e = 0, api.ErrEmpty
	case fault != api.OK:
		want, e = 0, api.ErrNot
	default:
		got, at, fault := str.Decode(kind, b)
		if !slices.Equal(got, s) || at != 0 || fault != api.OK {
			t.Errorf("%#x as %d is % X, which is decoded as %#x, %d, %d", s, kind, b, got, at, fault)
		}
	}
	mustFirst(t, []int{kind}, s, want, e)
	mustLeast(t, []int{kind}, s, want, e)
}

// P20.2: all lists of up to three of some numbers that more or fewer of the kinds have.
func TestKeepShortLists(t *testing.T) {
	some := []int{-1, 0, ' ', '1', '=', 'a', '~', 0x7F, 0xE9, 0x3B1, 0x6C34, 0xD800, 0x10000, 0x110000}
	var group sync.WaitGroup
	for _, kind := range append(kinds, 0, 99) {
		group.Go(func() {
			for length := range 4 {
				eachList(some, make([]int, 0, length), func(s []int) { mustKeep(t, kind, s) })
			}
		})
	}
	group.Wait()
}

// P20.2: all numbers, alone and behind another, from below 0 to beyond MaxScalar; for Teletex those up to one behind the last that it has.
func TestKeepEveryNumber(t *testing.T) {
	const workers = 16
	var group sync.WaitGroup
	for worker := range workers {
		group.Go(func() {
			for c := worker - 0x40; c <= api.MaxScalar+0x40; c += workers {
				for _, kind := range kinds {
					if kind == api.Teletex && c > 0x3100 {
						continue
					}
					mustKeep(t, kind, []int{c})
					if c < 0x500 {
						mustKeep(t, kind, []int{'1', c})
					}
				}
			}
		})
	}
	group.Wait()
}

// P20.2: what First and Least choose encodes and decodes the scalars, in the fewest bytes if it is Least.
func TestKeepChoices(t *testing.T) {
	for _, x := range samples() {
		s := scalars(x.text)
		first, e := choose.First(kinds, s)
		least, fault := choose.Least(kinds, s)
		if e != api.OK || fault != api.OK {
			t.Errorf("%q: %d, %d", x.text, e, fault)
		}
		mustKeep(t, first, s)
		mustKeep(t, least, s)
		fewest, _, _ := str.Encode(least, s)
		for _, kind := range kinds {
			if b, _, e := str.Encode(kind, s); e == api.OK && len(b) < len(fewest) {
				t.Errorf("%q: kind %d has fewer bytes than kind %d", x.text, kind, least)
			}
		}
	}
}

// P20.1, R1: long lists of kinds for long lists of scalars, which are encoded no more often than there are kinds.
func TestLong(t *testing.T) {
	digits := slices.Repeat([]int{'1'}, 300000)
	list := slices.Repeat([]int{api.Universal, 0, api.Bmp, -1, api.Universal}, 200000)
	var others []int
	for x := range 600000 {
		others = append(others, -x, x+api.Bmp+1)
	}
	for k, x := range []struct {
		list, s      []int
		first, least int
		fault        api.Errno
	}{
		{list, digits, api.Universal, api.Bmp, api.OK},
		{append(slices.Clip(list), api.Numeric, api.Utf8), digits, api.Universal, api.Numeric, api.OK},
		{list, append(slices.Clip(digits), 0xD800), 0, 0, api.ErrNot},
		{append(slices.Clip(list), kinds...), append(slices.Clip(digits), -1), 0, 0, api.ErrNot},
		{list, nil, 0, 0, api.ErrEmpty},
		{others, digits, 0, 0, api.ErrNot},
		{append(slices.Clip(others), api.Bmp, api.Ia5), digits, api.Bmp, api.Ia5, api.OK},
	} {
		first, e := choose.First(x.list, x.s)
		least, fault := choose.Least(x.list, x.s)
		if first != x.first || least != x.least || e != x.fault || fault != x.fault {
			t.Errorf("list %d: First is %d, %d; Least is %d, %d", k, first, e, least, fault)
		}
	}
}

// P20.1, R2, R6: the arguments stay, and what stands behind their length is not read.
func TestArgumentsStay(t *testing.T) {
	for _, x := range samples() {
		for _, part := range [][]int{{}, {api.Universal, api.Utf8}, {api.Utf8, api.Printable, api.Utf8}, {0, api.Numeric}, {api.Bmp, api.Teletex, 99}} {
			s, list := append(scalars(x.text), -1, 0xD800), append(slices.Clone(part), kinds...)
			wholeS, wholeList := slices.Clone(s), slices.Clone(list)
			x.mustChoose(t, list[:len(part)])
			givenS, givenList := s[:len(s)-2], list[:len(part)]
			for _, kind := range kinds {
				mustFit(t, kind, givenS, x.sizes[kind] > 0)
			}
			if first, e := choose.First(givenList, givenS); first != x.first(part) || (e == api.OK) != (first != 0) {
				t.Errorf("First(%d, %#x) = %d, %d", givenList, givenS, first, e)
			}
			if least, e := choose.Least(givenList, givenS); least != x.least(part) || (e == api.OK) != (least != 0) {
				t.Errorf("Least(%d, %#x) = %d, %d", givenList, givenS, least, e)
			}
			if !slices.Equal(s, wholeS) || !slices.Equal(list, wholeList) {
				t.Errorf("the arguments were %#x and %d, and are %#x and %d", wholeS, wholeList, s, list)
			}
			// With all that stands behind it, the list of scalars fits nothing.
			mustNeither(t, list, s, api.ErrNot)
		}
	}
}

// R3: calls in turn and from several goroutines at once do not disturb each other.
func TestCallsAtOnce(t *testing.T) {
	s, list := scalars("水😀"), []int{api.Universal, api.Utf8, api.Bmp}
	var group sync.WaitGroup
	for range 8 {
		group.Go(func() {
			for range 20 {
				for _, x := range samples() {
					x.mustChoose(t, kinds)
				}
				mustFirst(t, list, s, api.Universal, api.OK)
				mustLeast(t, list, s, api.Utf8, api.OK)
				mustNeither(t, list, s[:0], api.ErrEmpty)
			}
		})
	}
	group.Wait()
}
