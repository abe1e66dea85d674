package sets_test

import (
	"bytes"
	"encoding/binary"
	"slices"
	"testing"

	"sobriquet/sets"
)

// before tells by the words of the chapter whether a comes before b.
func before(a, b []byte) bool {
	for i := range min(len(a), len(b)) {
		if a[i] != b[i] {
			return a[i] < b[i]
		}
	}
	return len(a) < len(b)
}

// eachList calls f with every list of so many elements of a choice.
func eachList(choice, l [][]byte, count int, f func([][]byte)) {
	if len(l) == count {
		f(l)
		return
	}
	for _, b := range choice {
		eachList(choice, append(l[:len(l):len(l)], b), count, f)
	}
}

// mustHold checks all four calls for l by counting what comes before each element.
func mustHold(t *testing.T, l [][]byte) {
	t.Helper()
	places, sorted, inOrder := make([]int, len(l)), make([][]byte, len(l)), true
	for i, b := range l {
		place := 0
		for j, other := range l {
			if before(other, b) || j < i && !before(b, other) {
				place++
			}
			want := 0
			if before(b, other) {
				want = -1
			} else if before(other, b) {
				want = 1
			}
			mustCompare(t, b, other, want)
		}
		places[place], sorted[place] = i, b
		inOrder = inOrder && (i == 0 || !before(b, l[i-1]))
	}
	mustSort(t, l, sorted, places)
	if got := sets.Sorted(l); got != inOrder {
		t.Errorf("Sorted(% X) = %t", l, got)
	}
	if !sets.Sorted(sets.Sort(l)) {
		t.Errorf("Sort(% X) is not Sorted", l)
	}
}

// P4.1, P4.2: all lists of a few elements.
func TestAllShortLists(t *testing.T) {
	choice := [][]byte{nil, {0x01}, {0x01, 0x00}, {0x01, 0xFF}, {0x7F}, {0x80}, {0xFF}}
	for count := range 6 {
		eachList(choice, nil, count, func(l [][]byte) {
			mustHold(t, l)
		})
	}
	eachList(choice[1:3], nil, 12, func(l [][]byte) {
		mustHold(t, l)
	})
}

// P4.1, P4.2: longer lists, with many equal elements and without.
func TestLongerLists(t *testing.T) {
	for _, count := range []int{12, 13, 20, 21, 49, 50, 51, 64, 100, 200} {
		for _, different := range []int{2, 7, 251} {
			for step := range 5 {
				var l [][]byte
				for i := range count {
					n := (i*i*(step+1) + 31*i + step) % different
					l = append(l, bytes.Repeat([]byte{byte(n), 0x80}, 1+n%3))
				}
				mustHold(t, l)
			}
		}
	}
}

// permute calls f with l in every order.
func permute(l [][]byte, from int, f func([][]byte)) {
	if from == len(l) {
		f(l)
		return
	}
	for i := from; i < len(l); i++ {
		l[from], l[i] = l[i], l[from]
		permute(l, from+1, f)
		l[from], l[i] = l[i], l[from]
	}
}

// P4.2: Sort returns the same for every order of the elements, and it is Sorted.
func TestSortIsTheSameForEveryOrder(t *testing.T) {
	for _, l := range [][][]byte{
		nil,
		{nil, {0x00}},
		{{0x01}, {0x01}, {0x01, 0x00}, {0x01, 0x00}},
		{nil, {0x00}, {0x7F}, {0x80}, {0xFF}, {0xFF, 0x00}},
		{nil, nil, {0x30, 0x00}, {0x30, 0x00}, {0x30, 0x00}, {0x80}, {0x80, 0x00}},
	} {
		permute(slices.Clone(l), 0, func(other [][]byte) {
			got := sets.Sort(other)
			if !slices.EqualFunc(got, l, bytes.Equal) || !sets.Sorted(got) {
				t.Fatalf("Sort(% X) = % X; want % X", other, got, l)
			}
		})
	}
}

// mustPlaceMany checks the calls for a list that is too long for counting.
func mustPlaceMany(t *testing.T, what string, l [][]byte) {
	t.Helper()
	sorted, places := sets.Sort(l), sets.Place(l)
	if len(sorted) != len(l) || len(places) != len(l) || !sets.Sorted(sorted) {
		t.Fatalf("%s: %d of %d elements, %d places, sorted: %t", what, len(sorted), len(l), len(places), sets.Sorted(sorted))
	}
	seen := make([]bool, len(l))
	for i, place := range places {
		if seen[place] || !bytes.Equal(sorted[i], l[place]) {
			t.Fatalf("%s: place %d is %d", what, i, place)
		}
		seen[place] = true
		if i > 0 && bytes.Equal(sorted[i-1], sorted[i]) && places[i-1] > place {
			t.Fatalf("%s: the equal elements at %d and %d are out of order", what, places[i-1], place)
		}
	}
}

// R1: long lists are sorted in time, whatever their order, and so are long elements that differ at the end.
func TestLongLists(t *testing.T) {
	const many = 1 << 16
	for _, c := range []struct {
		what string
		rule func(i int) int
	}{
		{"sorted", func(i int) int { return i }},
		{"reversed", func(i int) int { return many - i }},
		{"equal", func(i int) int { return 0 }},
		{"two in turn", func(i int) int { return i % 2 }},
		{"up and down", func(i int) int { return min(i, many-i) }},
		{"down and up", func(i int) int { return max(i, many-i) }},
		{"saw", func(i int) int { return i % 255 }},
		{"mixed", func(i int) int { return i * 40503 % many }},
		{"one astray", func(i int) int { return (i + 1) % many }},
	} {
		l := make([][]byte, many)
		for i := range l {
			l[i] = binary.BigEndian.AppendUint32(nil, uint32(c.rule(i)))
		}
		mustPlaceMany(t, c.what, l)
		if got, want := sets.Sorted(l), c.what == "sorted" || c.what == "equal"; got != want {
			t.Errorf("%s: Sorted = %t", c.what, got)
		}
	}
	mustPlaceMany(t, "nil", make([][]byte, many))
	long := make([][]byte, 64)
	for i := range long {
		long[i] = append(make([]byte, many), byte(7*i))
	}
	mustPlaceMany(t, "long elements", long)
	mustCompare(t, make([]byte, 1<<24), make([]byte, 1<<24+1), -1)
}

// R2, R6: the list and its elements stay as they are, with their spare capacity, which is not read.
func TestListsStayAsTheyAre(t *testing.T) {
	// Behind each element stand bytes, and behind the list elements, that would change the order.
	memory := []byte{0x02, 0x00, 0x00, 0x01, 0xFF, 0xFF, 0x01, 0x00, 0x00, 0x00}
	kept := bytes.Clone(memory)
	full := [][]byte{memory[0:1:3], memory[3:4:6], memory[6:7:9], nil, {0x00}}
	before := slices.Clone(full)
	l := full[:3]
	mustSort(t, l, [][]byte{{0x01}, {0x01}, {0x02}}, []int{1, 2, 0})
	mustCompare(t, l[1], l[2], 0)
	mustCompare(t, l[0], l[1], 1)
	if sets.Sorted(l) || !sets.Sorted(l[1:]) {
		t.Errorf("Sorted(% X) = %t, Sorted(% X) = %t", l, sets.Sorted(l), l[1:], sets.Sorted(l[1:]))
	}
	if !bytes.Equal(memory, kept) {
		t.Errorf("the elements' memory has become % X", memory)
	}
	for i := range full {
		if !bytes.Equal(full[i], before[i]) || cap(full[i]) != cap(before[i]) || cap(full[i]) > 0 && &full[i][:1][0] != &before[i][:1][0] {
			t.Errorf("element %d has become % X", i, full[i])
		}
	}
}

// R2: what Sort returns shares memory neither with the list nor with itself, even where the elements of the list share it with one another.
func TestSortReturnsNewMemory(t *testing.T) {
	one := []byte{0x07, 0x08, 0x09, 0x0A}
	l := [][]byte{one[2:], one[:2], one[:2], one, nil, {0x05}}
	want := [][]byte{nil, {0x05}, {0x07, 0x08}, {0x07, 0x08}, {0x07, 0x08, 0x09, 0x0A}, {0x09, 0x0A}}
	for spoiled := range want {
		got := sets.Sort(l)
		spoil(got[spoiled], 0xEE)
		for i := range want {
			if i != spoiled && !bytes.Equal(got[i], want[i]) {
				t.Errorf("element %d shares memory with element %d: % X", i, spoiled, got[i])
			}
		}
	}
	got := sets.Sort(l)
	for i := range got {
		spoil(got[i], 0xEE)
	}
	spoil(got, []byte{0xEE})
	spoil(sets.Place(l), -1)
	mustSort(t, l, want, []int{4, 5, 1, 2, 3, 0})
}

// R6: what stands behind the elements of a list stands nowhere in the spare capacity of a result either.
func TestNothingBehindAnElementIsReturned(t *testing.T) {
	const behind = 0xAB
	memory := bytes.Repeat([]byte{behind}, 64)
	memory[0], memory[20] = 0x02, 0x01
	full := [][]byte{memory[0:1:16], memory[20:21:60], memory[5:5:9], {behind}}
	for _, b := range sets.Sort(full[:3]) {
		if bytes.IndexByte(b[:cap(b)], behind) >= 0 {
			t.Errorf("behind % X stands % X", b, b[:cap(b)])
		}
	}
	sorted, places := sets.Sort(full[:3]), sets.Place(full[:3])
	for _, b := range sorted[len(sorted):cap(sorted)] {
		if len(b) > 0 {
			t.Errorf("behind the elements stands % X", b)
		}
	}
	if !slices.Equal(places, []int{2, 1, 0}) {
		t.Errorf("Place(% X) = %v", full[:3], places)
	}
}

// R2: a list that is sorted already is copied too.
func TestASortedListIsCopied(t *testing.T) {
	full := [][]byte{{0x01}, {0x02}, {0x03}, {0x04}}
	for count := range len(full) {
		l := full[:count]
		got := sets.Sort(l)
		for i := range got {
			spoil(got[i], 0xEE)
		}
		spoil(got, []byte{0xEE})
		spoil(sets.Place(l), -1)
		for i, b := range full {
			if !bytes.Equal(b, []byte{byte(i) + 1}) {
				t.Fatalf("%d elements: element %d has become % X", count, i, b)
			}
		}
		mustSort(t, l, full[:count], numbers(count))
	}
}

// spoil writes over a result and over its spare capacity.
func spoil[T any](l []T, with T) {
	full := l[:cap(l)]
	for i := range full {
		full[i] = with
	}
}
