// Package table makes the tables of states by which symbols are told (P9).
package table

import "frames/bits"

// Rare stands for the count of a symbol that is rare.
const Rare = -1

// leastAccuracy is what a head's accuracy is counted from.
const leastAccuracy = 5

// Head tells how many states each symbol of a table has.
type Head struct {
	Accuracy int
	Counts   []int // of the symbols from 0 on; they fill 2^Accuracy states
}

// ReadHead reads a table's head. It is false if that is none of a table of at
// most such an accuracy (up to MaxAccuracy) and with no greater symbol.
func ReadHead(in *bits.Forward, topAccuracy int, topSymbol int) (Head, bool) {
	more, there := in.Read(4)
	accuracy := leastAccuracy + more
	if !there || accuracy > topAccuracy || accuracy > MaxAccuracy {
		return Head{}, false
	}
	h := Head{Accuracy: accuracy}
	left := 1 << accuracy
	for left > 0 {
		v, told := readShare(in, left+1)
		if !told || len(h.Counts) > topSymbol {
			return Head{}, false
		}
		switch v {
		case 0:
			h.Counts = append(h.Counts, Rare)
			left--
		case 1:
			h.Counts = append(h.Counts, 0)
			told = h.readEmpty(in, topSymbol)
		default:
			h.Counts = append(h.Counts, v-1)
			left -= v - 1
		}
		if !told {
			return Head{}, false
		}
	}
	return h, true
}

// shareWidth is how many bits a number of 0 to top has, and how many numbers of
// so many bits are not needed: so many small ones take a bit less.
func shareWidth(top int) (int, int) {
	n := 0
	for top>>n > 0 {
		n++
	}
	return n, 1<<n - 1 - top
}

// readShare reads a number of 0 to top, which is at least 1.
func readShare(in *bits.Forward, top int) (int, bool) {
	n, spare := shareWidth(top)
	v, there := in.Read(n - 1)
	if !there {
		return 0, false
	}
	if v < spare {
		return v, true
	}
	upper, there := in.Read(1)
	if !there {
		return 0, false
	}
	if upper == 1 {
		v += 1<<(n-1) - spare
	}
	return v, true
}

// readEmpty reads how many more symbols have no state.
func (h *Head) readEmpty(in *bits.Forward, topSymbol int) bool {
	more := 3
	for more == 3 {
		n, there := in.Read(2)
		if !there || len(h.Counts)+n > topSymbol+1 {
			return false
		}
		for i := 0; i < n; i++ {
			h.Counts = append(h.Counts, 0)
		}
		more = n
	}
	return true
}
