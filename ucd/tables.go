package ucd

import (
	"slices"

	"sobriquet/api"
	"sobriquet/ranges"
)

// table is the rows of a table of package api, which are found by a key of each row.
type table[R any, K comparable] struct {
	rows []R
	key  func(R) K
}

// find returns the first row with this key; false if there is none.
func (t table[R, K]) find(key K) (R, bool) {
	for _, row := range t.rows {
		if t.key(row) == key {
			return row, true
		}
	}
	var none R
	return none, false
}

// decomposition is a scalar and the first and the second one that it consists of; the second one is 0 if the first one stands alone.
type decomposition = [3]int

// whole returns the scalar that is decomposed.
func whole(x decomposition) int {
	return x[0]
}

// parts returns the two scalars that x consists of.
func parts(x decomposition) [2]int {
	return [2]int{x[1], x[2]}
}

// decompositions returns the canonical decompositions by what is decomposed.
func decompositions() table[decomposition, int] {
	return table[decomposition, int]{api.Canon(), whole}
}

// composites returns the canonical decompositions that are composed again, by their two scalars.
func composites() table[decomposition, [2]int] {
	return table[decomposition, [2]int]{composed(api.Canon(), api.Excluded(), api.Classes()), parts}
}

// composed returns the rows of l that have two scalars, are not excluded, and neither begin with a scalar of a class other than 0 nor decompose one.
func composed(l []decomposition, excluded []int, classes []api.Range) []decomposition {
	return slices.DeleteFunc(l, func(x decomposition) bool {
		return x[2] == 0 || slices.Contains(excluded, x[0]) || ranges.Flat(classes, x[0]) != 0 || ranges.Flat(classes, x[1]) != 0
	})
}

// mappings returns the rows of l by the scalar that they map.
func mappings(l []api.Map) table[api.Map, int] {
	return table[api.Map, int]{l, func(m api.Map) int { return m.From }}
}
