package ranges

// run is adjacent numbers, from one to another, with the same value.
type run[V comparable] struct {
	from, to int
	value    V
}

// runs is the longest runs of numbers whose value is not the zero value, in ascending order.
type runs[V comparable] []run[V]

// add adds a number, which is greater than those added before it.
func (l *runs[V]) add(number int, value V) {
	var none V
	if value == none {
		return
	}
	last := len(*l) - 1
	if last >= 0 && (*l)[last].to == number-1 && (*l)[last].value == value {
		(*l)[last].to = number
		return
	}
	*l = append(*l, run[V]{number, number, value})
}
