package ranges

// block is the values of one group of numbers: 16 bits hold each of them, and blocks are compared as a whole.
type block [blockSize]uint16

// join returns the values of the blocks, one block after the other.
func join(l []block) []int {
	values := make([]int, 0, len(l)*blockSize)
	for i := range l {
		for _, value := range l[i] {
			values = append(values, int(value))
		}
	}
	return values
}

// pool is different items in the order of their first use, with the place of each.
type pool[T comparable] struct {
	items  []T
	places map[T]int
}

// place returns the place of item, which it adds if it is new.
func (p *pool[T]) place(item T) int {
	at, known := p.places[item]
	if !known {
		at = len(p.items)
		p.items = append(p.items, item)
		p.places[item] = at
	}
	return at
}
