package table

import "frames/bits"

// MaxAccuracy is the greatest accuracy of any table.
const MaxAccuracy = 9

// state is a place of a table: the symbol that it says, how many bits it needs
// to go on, and where it goes on to if they are all 0.
type state struct {
	symbol int
	needs  int
	next   int
}

// Table is the states of a table.
type Table struct {
	accuracy int
	states   [1 << MaxAccuracy]state
}

// One makes a table of one state, which says symbol and needs no bits.
func One(symbol int) Table {
	t := Table{}
	t.states[0].symbol = symbol
	return t
}

// Lay makes the table of a head that is one.
func Lay(h Head) Table {
	t := Table{accuracy: h.Accuracy}
	size := 1 << h.Accuracy
	free := t.layRare(h.Counts, size)
	t.spread(order(h.Counts), free, size)
	t.link(h.Counts, size)
	return t
}

// layRare gives the last states to the rare symbols, and tells how many are
// left ahead of them.
func (t *Table) layRare(counts []int, size int) int {
	free := size
	for symbol, count := range counts {
		if count == Rare && free > 0 {
			free--
			t.states[free].symbol = symbol
		}
	}
	return free
}

// order is the symbols that are not rare, each as often as it has states.
func order(counts []int) []int {
	symbols := []int{}
	for symbol, count := range counts {
		for i := 0; i < count; i++ {
			symbols = append(symbols, symbol)
		}
	}
	return symbols
}

// spread lays the symbols over the first free states. The stride has no
// divisor in common with size, so each state is come to once.
func (t *Table) spread(symbols []int, free int, size int) {
	stride := size/2 + size/8 + 3
	place := 0
	laid := 0
	for i := 0; i < size; i++ {
		if place < free && laid < len(symbols) {
			t.states[place].symbol = symbols[laid]
			laid++
		}
		place = (place + stride) % size
	}
}

// link tells of each state how it goes on.
func (t *Table) link(counts []int, size int) {
	values := firstValues(counts)
	for i := 0; i < size; i++ {
		symbol := t.states[i].symbol
		y := values[symbol]
		values[symbol]++
		b := needs(y, t.accuracy)
		t.states[i].needs = b
		t.states[i].next = y<<b - size
	}
}

// firstValues is the value of each symbol's first state: how many it has.
func firstValues(counts []int) []int {
	values := make([]int, len(counts))
	for symbol, count := range counts {
		values[symbol] = count
		if count == Rare {
			values[symbol] = 1
		}
	}
	return values
}

// needs is how many bits a state of value y needs to go on.
func needs(y int, accuracy int) int {
	b := 0
	for b < accuracy && y<<b < 1<<accuracy {
		b++
	}
	return b
}

// Start reads the state with which to begin. It is false if its bits are not
// there.
func (t *Table) Start(in *bits.Stream) (int, bool) {
	return in.Read(t.accuracy)
}

// Symbol is what a state says.
func (t *Table) Symbol(at int) int {
	return t.states[at].symbol
}

// GoOn reads the state that comes behind one. It is false, and nothing is
// read, if the bits that it needs are not there.
func (t *Table) GoOn(at int, in *bits.Stream) (int, bool) {
	s := t.states[at]
	z, there := in.Read(s.needs)
	if !there {
		return 0, false
	}
	return s.next + z, true
}
