package encode

import (
	"frames/api"
	"frames/bits"
	"frames/layout"
	"frames/tally"
	"frames/tree"
)

// What can be asked of literals (P14); what is left is that they be raw.
const (
	askSame        = 1
	askTree        = 2
	askTreeInFour  = 3
	askAgain       = 4
	askAgainInFour = 5
)

// topInOne: in the head of one stream there is no room for a greater number.
const topInOne = 1<<10 - 1

// How many bytes are held free for what one stream has beside its codes.
const (
	besideTree  = 140
	besideAgain = 2
)

// writeLiterals writes the literals of a block by what is asked of them.
func (k *kept) writeLiterals(out *writer, literals string, ask int) {
	four := ask == askTreeInFour || ask == askAgainInFour
	kind := k.kindOf(literals, ask, four)
	switch kind {
	case layout.SameKind:
		writePlainHead(out, kind, len(literals))
		out.text(literals[:1])
	case layout.TreeKind:
		k.weights = weightsOf(literals)
		told := k.told()
		k.writeCoded(out, kind, tree.Outright(told), literals, four)
	case layout.AgainKind:
		k.writeCoded(out, kind, "", literals, four)
	default:
		writePlainHead(out, kind, len(literals))
		out.text(literals)
	}
}

// kindOf is the kind that literals are written as. It is raw where nothing else
// can be, and where it may be: where a tree could not be told outright, and
// where one stream might have no room.
func (k *kept) kindOf(literals string, ask int, four bool) int {
	size := len(literals)
	switch ask {
	case askSame:
		if isSame(literals) {
			return layout.SameKind
		}
	case askTree, askTreeInFour:
		if hasTree(literals) && hasRoom(size, four, besideTree) {
			return layout.TreeKind
		}
	case askAgain, askAgainInFour:
		if k.canSay(literals) && hasRoom(size, four, besideAgain) {
			return layout.AgainKind
		}
	}
	return layout.RawKind
}

// hasRoom: so many literals can be told by codes in one stream or in four.
func hasRoom(size int, four bool, beside int) bool {
	if four {
		return size >= layout.LeastInFour
	}
	return size*api.MaxBits/8+beside <= topInOne
}

// hasTree: a tree can be made for literals and told outright.
func hasTree(literals string) bool {
	met := tallyOf(literals)
	return met.Different() >= 2 && len(met.Often) <= tree.MaxOutright+1
}

// tallyOf counts literals.
func tallyOf(literals string) tally.Tally {
	met := tally.Tally{}
	for i := 0; i < len(literals); i++ {
		met.Add(int(literals[i]))
	}
	return met
}

// weightsOf is the weights of a tree for literals.
func weightsOf(literals string) []int {
	met := tallyOf(literals)
	return tree.Weigh(&met)
}

// canSay: there are literals, and the last tree has a code for each.
func (k *kept) canSay(literals string) bool {
	for i := 0; i < len(literals); i++ {
		symbol := int(literals[i])
		if symbol >= len(k.weights) || k.weights[symbol] == 0 {
			return false
		}
	}
	return len(literals) > 0
}

// told is the weights that the last tree tells: all but the last symbol's.
func (k *kept) told() []int {
	if len(k.weights) == 0 {
		return nil
	}
	return k.weights[:len(k.weights)-1]
}

// writePlainHead writes the head of literals that are not told by codes.
func writePlainHead(out *writer, kind int, size int) {
	switch {
	case size < 1<<5:
		out.number(kind|size<<3, 1)
	case size < 1<<12:
		out.number(kind|1<<2|size<<4, 2)
	default:
		out.number(kind|3<<2|size<<4, 3)
	}
}

// writeCoded writes literals by the codes of the last tree, with that tree
// ahead of them, if it is told.
func (k *kept) writeCoded(out *writer, kind int, ahead string, literals string, four bool) {
	// Weights that were made for literals are always those of a tree.
	t, _ := tree.Make(k.told())
	body := ahead
	if four {
		body += inFour(&t, literals)
	} else {
		body += inOne(&t, literals)
	}
	writeCodedHead(out, kind, len(literals), len(body), four)
	out.text(body)
}

// writeCodedHead writes the head of literals that are told by codes: behind
// four bits it is two numbers that are equally wide.
func writeCodedHead(out *writer, kind int, size int, width int, four bool) {
	form := 0
	half := 10
	if four {
		form = 1
	}
	if size >= 1<<half || width >= 1<<half {
		form = 2
		half = 14
	}
	out.number(kind|form<<2|size<<4|width<<(4+half), (4+2*half)/8)
}

// inOne is the stream that says literals. The first is read first, so it is
// laid last.
func inOne(t *tree.Tree, literals string) string {
	out := bits.Writer{}
	for i := len(literals) - 1; i >= 0; i-- {
		t.Put(literals[i], &out)
	}
	return out.EndStream()
}

// inFour is the four streams that say literals, the sizes of three ahead of
// them.
func inFour(t *tree.Tree, literals string) string {
	shares := layout.Quarters(len(literals))
	sizes := writer{}
	streams := ""
	rest := literals
	for i := 0; i < 4; i++ {
		stream := inOne(t, rest[:shares[i]])
		rest = rest[shares[i]:]
		if i < 3 {
			sizes.number(len(stream), 2)
		}
		streams += stream
	}
	return string(sizes.bytes) + streams
}
