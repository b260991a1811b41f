// Package tally counts how often symbols come.
package tally

// Tally is how often each symbol came. The zero value has met none.
type Tally struct {
	Often []int // of the symbols from 0 on, up to the greatest that came
}

// Add counts a symbol.
func (t *Tally) Add(symbol int) {
	if symbol < 0 {
		return
	}
	for len(t.Often) <= symbol {
		t.Often = append(t.Often, 0)
	}
	t.Often[symbol]++
}

// Total is how many symbols came, each as often as it did.
func (t *Tally) Total() int {
	total := 0
	for _, n := range t.Often {
		total += n
	}
	return total
}

// Different is how many different symbols came.
func (t *Tally) Different() int {
	different := 0
	for _, n := range t.Often {
		if n > 0 {
			different++
		}
	}
	return different
}

// Commonest is the least of the symbols that came most often.
func (t *Tally) Commonest() int {
	best := 0
	for symbol, n := range t.Often {
		if n > t.Often[best] {
			best = symbol
		}
	}
	return best
}
