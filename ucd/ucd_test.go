package ucd_test

import (
	"slices"
	"sync"
	"testing"

	"sobriquet/api"
	"sobriquet/ucd"
)

// spoil writes over a result and over its spare capacity.
func spoil(l []int) {
	full := l[:cap(l)]
	for i := range full {
		full[i] = -1
	}
}

// R2: a result that is changed afterwards changes neither another one nor a later one.
func TestResultsAreNewMemory(t *testing.T) {
	for _, f := range []func(int) []int{ucd.Canon, ucd.Compat, ucd.Fold} {
		for _, c := range []int{0x41, 0xC0, 0xDF, 0x130, 0x149, 0x340, 0x385, 0x1EA4, 0x2000, 0x2026, 0x212B, 0x2460, 0xFB03, 0xFF21} {
			first, second := f(c), f(c)
			kept := slices.Clone(first)
			spoil(first)
			if !slices.Equal(second, kept) {
				t.Errorf("%#x: two results share memory", c)
			}
			mustBecome(t, f, c, kept)
		}
	}
	mustPair(t, 0x41, 0x300, 0xC0)
}

// R2: what is changed in the tables afterwards changes no result, nor a later one.
func TestTablesAreNotKept(t *testing.T) {
	canon, compat, folds := ucd.Canon(0xC0), ucd.Compat(0xFB03), ucd.Fold(0xDF)
	for _, m := range slices.Concat(api.Compat(), api.Folds()) {
		spoil(m.To)
	}
	clear(api.Canon())
	for _, l := range rangeTables() {
		clear(l)
	}
	if !slices.Equal(canon, []int{0x41, 0x300}) || !slices.Equal(compat, []int{0x66, 0x66, 0x69}) || !slices.Equal(folds, []int{0x73, 0x73}) {
		t.Errorf("%#x, %#x, %#x", canon, compat, folds)
	}
	mustBecome(t, ucd.Canon, 0xC0, canon)
	mustBecome(t, ucd.Compat, 0xFB03, compat)
	mustBecome(t, ucd.Fold, 0xDF, folds)
	if ucd.Class(0x300) != 230 || !ucd.Assigned(0x41) {
		t.Error("a table of ranges is kept")
	}
}

// R4: the second result of Pair tells whether there is a first one, for every pair of numbers beside each other.
func TestNeighboursAreNoPairs(t *testing.T) {
	for c := -1; c < 0x400; c++ {
		mustNotPair(t, c, c+1)
	}
}

// R3: calls from several goroutines at once do not disturb each other.
func TestCallsAtOnce(t *testing.T) {
	var group sync.WaitGroup
	for range 8 {
		group.Go(func() {
			for range 50 {
				mustPair(t, 0x41, 0x300, 0xC0)
				mustBecome(t, ucd.Canon, 0xC0, []int{0x41, 0x300})
				mustBecome(t, ucd.Compat, 0xFB03, []int{0x66, 0x66, 0x69})
				mustBecome(t, ucd.Fold, 0xDF, []int{0x73, 0x73})
			}
		})
	}
	group.Wait()
}
