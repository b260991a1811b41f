package promises

import (
	"sort"
	"strings"

	"frames/api"
)

// seq is a sequence by its values: so many literals, so many bytes that are
// copied, and from where.
type seq struct{ ll, of, ml int }

// value is the sequence's value of a table.
func (q seq) value(t int) int {
	return [3]int{q.ll, q.of, q.ml}[t]
}

// codeOf is the code whose values v is among.
func codeOf(t, v int) int {
	return sort.SearchInts(least[t], v+1) - 1
}

// tab is one of the tables of a block: its mode, how it is told, and its states.
type tab struct {
	mode   int
	told   string
	places []place
}

// tabs are those of LL, OF and ML.
type tabs [3]tab

// usual is the usual table of a kind.
func usual(t int) tab {
	return tab{0, "", statesOf(usualAccuracy[t], usualCounts[t])}
}

// allUsual are the usual tables.
func allUsual() tabs {
	return tabs{usual(api.LL), usual(api.OF), usual(api.ML)}
}

// only is a table of one state.
func only(code int) tab {
	return tab{1, little(uint64(code), 1), []place{{symbol: code}}}
}

// onlyOf are the tables of one state that say this sequence's codes.
func onlyOf(q seq) tabs {
	var b tabs
	for t := range b {
		b[t] = only(codeOf(t, q.value(t)))
	}
	return b
}

// written is a table that is told by its head.
func written(accuracy int, counts ...int) tab {
	return tab{2, forward(headOf(accuracy, counts)), statesOf(accuracy, counts)}
}

// again is the last table again, where it is this one.
func (b tab) again() tab {
	return tab{3, "", b.places}
}

// again is all three again.
func (b tabs) again() tabs {
	return tabs{b[0].again(), b[1].again(), b[2].again()}
}

// modes is the byte of the three modes and the tables that are told.
func (b tabs) modes() string {
	byModes := b[0].mode<<6 | b[1].mode<<4 | b[2].mode<<2
	return little(uint64(byModes), 1) + b[0].told + b[1].told + b[2].told
}

// states are those that say the codes of the sequences.
func (b tabs) states(qs []seq) [][3]int {
	at := make([][3]int, len(qs))
	for t := range b {
		for i := len(qs) - 1; i >= 0; i-- {
			code := codeOf(t, qs[i].value(t))
			if i == len(qs)-1 {
				at[i][t] = saying(b[t].places, code)
			} else {
				at[i][t] = reach(b[t].places, code, at[i+1][t])
			}
		}
	}
	return at
}

// saying is the first state that says a code.
func saying(places []place, code int) int {
	for i, p := range places {
		if p.symbol == code {
			return i
		}
	}
	panic("no such state")
}

// begin is the bits of the first states.
func (b tabs) begin(at [3]int) string {
	bits := ""
	for t := range b {
		bits += high(at[t], len(trimmed(len(b[t].places)))-1)
	}
	return bits
}

// values is the bits of the values of a sequence.
func values(q seq) string {
	bits := ""
	for _, t := range []int{api.OF, api.ML, api.LL} {
		v := q.value(t)
		code := codeOf(t, v)
		bits += high(v-least[t][code], more(t, code))
	}
	return bits
}

// onward is the bits by which states go on to those of the next sequence.
func (b tabs) onward(at, next [3]int) string {
	bits := ""
	for _, t := range []int{api.LL, api.ML, api.OF} {
		p := b[t].places[at[t]]
		bits += high(next[t]-p.next, p.needs)
	}
	return bits
}

// bits is the bits of a stream that tells the sequences.
func (b tabs) bits(qs ...seq) string {
	at := b.states(qs)
	var s strings.Builder
	s.WriteString(b.begin(at[0]))
	for i, q := range qs {
		s.WriteString(values(q))
		if i+1 < len(qs) {
			s.WriteString(b.onward(at[i], at[i+1]))
		}
	}
	return s.String()
}

// countOf tells how many, in as few bytes as can be.
func countOf(n int) string {
	switch {
	case n < 128:
		return little(uint64(n), 1)
	case n < 32512:
		return little(uint64(128+n>>8), 1) + little(uint64(n&255), 1)
	}
	return "\xff" + little(uint64(n-32512), 2)
}

// whole is a compressed block of this body.
func whole(last int, body string) string {
	return block(last, 2, len(body), body)
}

// sequenced is a compressed block with sequences.
func sequenced(last int, literals string, b tabs, qs ...seq) string {
	return whole(last, literals+countOf(len(qs))+b.modes()+backward(b.bits(qs...)))
}

// streamed is a compressed block of n sequences and of this stream.
func streamed(last int, literals string, b tabs, n int, stream string) string {
	return whole(last, literals+countOf(n)+b.modes()+stream)
}

// alone is a compressed block of one sequence, whose tables say its codes alone.
func alone(last int, literals string, q seq) string {
	return sequenced(last, literals, onlyOf(q), q)
}

// text is literals of kind 0.
func text(s string) string {
	if len(s) < 32 {
		return plain(0, 0, len(s), s)
	}
	return plain(0, 3, len(s), s)
}

// many is literals of kind 1: n times x.
func many(n int) string {
	return plain(1, 3, n, "x")
}

// copied is s and n bytes more that are copied from so far back.
func copied(s string, back, n int) string {
	b := []byte(s)
	for range n {
		b = append(b, b[len(b)-back])
	}
	return string(b)
}
