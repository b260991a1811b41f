package encode

import (
	"frames/distance"
	"frames/table"
)

// kept is what a block leaves to those behind it. A block that is not written
// as compressed in the end leaves nothing, so each is given a copy; what the
// lists hold is never changed.
type kept struct {
	weights []int         // of the last tree's symbols from 0 on; none: no tree
	heads   [3]table.Head // of the last tables; without counts: no table
	last    distance.Last
}

// nothingKept is what the first block is given.
func nothingKept() kept {
	return kept{last: distance.Begin()}
}

// compressed writes the bytes of block k as a compressed one, and tells what it
// leaves to those behind it.
func (x *encoding) compressed(k int, begin int, end int) (string, kept) {
	next := x.kept
	literals, copies := x.finder.Cut(begin, end)
	body := writer{}
	next.writeLiterals(&body, literals, asked(x.ch.Lits, k))
	list := next.tell(copies, x.ch.Reps == 1)
	next.writeSequences(&body, list, asked(x.ch.Modes, k))
	return string(body.bytes), next
}
