package table

import (
	"frames/bits"
	"frames/tally"
)

// Only is the head of a table of one state, which says symbol. It is not told
// as heads are.
func Only(symbol int) Head {
	h := Head{}
	for i := 0; i < symbol; i++ {
		h.Counts = append(h.Counts, 0)
	}
	h.Counts = append(h.Counts, 1)
	return h
}

// Says: a state of the head's table says symbol.
func (h *Head) Says(symbol int) bool {
	return symbol >= 0 && symbol < len(h.Counts) && h.Counts[symbol] != 0
}

// Share makes the head of a table, of at most such an accuracy, for the symbols
// of a tally. Each of them has a state, so there must be room for all; the
// states that are left are shared out by how often they come.
func Share(met *tally.Tally, topAccuracy int) Head {
	total := met.Total()
	if total == 0 {
		return Head{}
	}
	h := Head{Accuracy: leastAccuracy}
	for h.Accuracy < topAccuracy && 1<<h.Accuracy < total {
		h.Accuracy++
	}
	size := 1 << h.Accuracy
	spare := size - met.Different()
	left := size
	for _, n := range met.Often {
		count := 0
		if n > 0 {
			count = 1 + spare*n/total
		}
		h.Counts = append(h.Counts, count)
		left -= count
	}
	best := met.Commonest()
	h.Counts[best] += left
	return h
}

// Write lays the head down as ReadHead reads it.
func (h *Head) Write(out *bits.Writer) {
	out.Add(h.Accuracy-leastAccuracy, 4)
	left := 1 << h.Accuracy
	symbol := 0
	for symbol < len(h.Counts) && left > 0 {
		count := h.Counts[symbol]
		symbol++
		writeShare(out, count+1, left+1)
		switch count {
		case Rare:
			left--
		case 0:
			more := emptyFrom(h.Counts, symbol)
			writeEmpty(out, more)
			symbol += more
		default:
			left -= count
		}
	}
}

// writeShare lays down v, a number of 0 to top, which is at least 1.
func writeShare(out *bits.Writer, v int, top int) {
	n, spare := shareWidth(top)
	half := 1 << n >> 1
	if v < spare {
		out.Add(v, n-1)
		return
	}
	if v < half {
		out.Add(v, n)
		return
	}
	out.Add(v-half+spare, n-1)
	out.Add(1, 1)
}

// emptyFrom is how many symbols one behind the other have no state, from symbol
// on.
func emptyFrom(counts []int, symbol int) int {
	n := 0
	for symbol+n < len(counts) && counts[symbol+n] == 0 {
		n++
	}
	return n
}

// writeEmpty lays down how many more symbols have no state.
func writeEmpty(out *bits.Writer, more int) {
	for more >= 3 {
		out.Add(3, 2)
		more -= 3
	}
	out.Add(more, 2)
}

// Saying is the first state that says symbol, which must be there. A stream may
// end with it.
func (t *Table) Saying(symbol int) int {
	for at := 0; at < 1<<t.accuracy; at++ {
		if t.states[at].symbol == symbol {
			return at
		}
	}
	return 0
}

// GoBack is the state that says symbol, which must be there, and goes on to
// next; it lays down the bits by which it does.
func (t *Table) GoBack(symbol int, next int, out *bits.Writer) int {
	for at := 0; at < 1<<t.accuracy; at++ {
		s := t.states[at]
		z := next - s.next
		if s.symbol == symbol && z >= 0 && z < 1<<s.needs {
			out.Add(z, s.needs)
			return at
		}
	}
	return 0
}

// WriteStart lays down the state with which a reader begins.
func (t *Table) WriteStart(at int, out *bits.Writer) {
	out.Add(at, t.accuracy)
}
