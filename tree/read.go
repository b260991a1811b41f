package tree

import (
	"frames/bits"
	"frames/table"
)

// The greatest accuracy and symbol of the table that tells weights.
const (
	topAccuracy = 6
	topWeight   = 11
)

// outright: from this first byte on weights are told without a table.
const outright = 128

// Read reads the tree with which s begins, and tells what stands behind it.
// It is false if there is none.
func Read(s string) (Tree, string, bool) {
	if len(s) == 0 {
		return Tree{}, "", false
	}
	h := int(s[0])
	body := s[1:]
	width := h
	if h >= outright {
		width = (h - outright + 2) / 2
	}
	if width > len(body) {
		return Tree{}, "", false
	}
	told, fit := readWeights(h, body[:width])
	if !fit {
		return Tree{}, "", false
	}
	t, fit := Make(told)
	if !fit {
		return Tree{}, "", false
	}
	return t, body[width:], true
}

// readWeights reads all the weights of a tree that begins with the byte h.
func readWeights(h int, body string) ([]int, bool) {
	if h < outright {
		return byTable(body)
	}
	return byHalves(body, h-outright+1), true
}

// byHalves reads n weights, two in a byte.
func byHalves(body string, n int) []int {
	told := []int{}
	for i := 0; i < len(body); i++ {
		told = append(told, int(body[i]>>4))
		if len(told) < n {
			told = append(told, int(body[i]&15))
		}
	}
	return told
}

// byTable reads the weights that a table tells. It is false if it tells none,
// or more than there may be; a state may need no bits to go on, so the stream
// alone would not end it.
func byTable(body string) ([]int, bool) {
	t, in, fit := openTable(body)
	if !fit {
		return nil, false
	}
	turn, there := t.Start(&in)
	if !there {
		return nil, false
	}
	other, there := t.Start(&in)
	if !there {
		return nil, false
	}
	told := []int{}
	for len(told) < MaxTold {
		told = append(told, t.Symbol(turn))
		next, there := t.GoOn(turn, &in)
		if !there {
			told = append(told, t.Symbol(other))
			return told, true
		}
		turn = other
		other = next
	}
	return nil, false
}

// openTable reads the table and opens the stream behind it.
func openTable(body string) (table.Table, bits.Stream, bool) {
	in := bits.OpenForward(body)
	h, fit := table.ReadHead(&in, topAccuracy, topWeight)
	if !fit {
		return table.Table{}, bits.Stream{}, false
	}
	stream, fit := bits.OpenStream(in.Rest())
	if !fit {
		return table.Table{}, bits.Stream{}, false
	}
	return table.Lay(h), stream, true
}
