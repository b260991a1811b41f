package encode

import (
	"frames/api"
	"frames/bits"
	"frames/codes"
	"frames/table"
)

// laying is a stream of sequences under way. All is laid in the order opposite
// to that in which it is read, so the last sequence comes first.
type laying struct {
	tables [3]table.Table
	states [3]int
	out    bits.Writer
}

// streamOf is the stream that tells sequences, of which there must be one, by
// the tables of these heads.
func streamOf(list []sequence, heads [3]table.Head) string {
	w := laying{}
	last := len(list) - 1
	for t := 0; t < 3; t++ {
		w.tables[t] = table.Lay(heads[t])
		w.states[t] = w.tables[t].Saying(list[last].codes[t])
	}
	for i := last; i >= 0; i-- {
		if i < last {
			w.goBack(list[i])
		}
		w.layValues(list[i])
	}
	w.layStates()
	return w.out.EndStream()
}

// goBack goes from the states of a sequence to those of s, which is ahead of
// it.
func (w *laying) goBack(s sequence) {
	order := [3]int{api.OF, api.ML, api.LL}
	for i := 0; i < 3; i++ {
		t := order[i]
		at := w.tables[t].GoBack(s.codes[t], w.states[t], &w.out)
		w.states[t] = at
	}
}

// layValues lays down what the values of s are above the least ones of their
// codes.
func (w *laying) layValues(s sequence) {
	order := [3]int{api.LL, api.ML, api.OF}
	for i := 0; i < 3; i++ {
		t := order[i]
		above := s.values[t] - codes.Least(t, s.codes[t])
		w.out.Add(above, codes.More(t, s.codes[t]))
	}
}

// layStates lays down the states with which a reader begins.
func (w *laying) layStates() {
	order := [3]int{api.ML, api.OF, api.LL}
	for i := 0; i < 3; i++ {
		t := order[i]
		w.tables[t].WriteStart(w.states[t], &w.out)
	}
}
