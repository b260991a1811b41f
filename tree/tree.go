// Package tree makes the trees by whose codes literals are told (P8).
package tree

import (
	"frames/api"
	"frames/bits"
)

// MaxTold is how many weights may be told: one symbol more has a weight that
// is not, and there are 256.
const MaxTold = 255

// Tree is the codes of the symbols. The zero value has none.
type Tree struct {
	log     int
	weights [MaxTold + 1]int       // of the symbols; 0: no code
	firsts  [MaxTold + 1]int       // the first numbers of log bits that begin with their codes
	symbols [1 << api.MaxBits]byte // whose code each number of log bits begins with
}

// Make makes the tree of these weights and the one that they leave over. It is
// false if they are those of none.
func Make(told []int) (Tree, bool) {
	sum, fit := sumOf(told)
	if !fit || sum == 0 {
		return Tree{}, false
	}
	log := widthOf(sum)
	left := 1<<log - sum
	last := widthOf(left)
	if log > api.MaxBits || left != numbers(last) {
		return Tree{}, false
	}
	t := Tree{log: log}
	for symbol, w := range told {
		t.weights[symbol] = w
	}
	t.weights[len(told)] = last
	if !t.has(1) {
		return Tree{}, false
	}
	t.lay()
	return t, true
}

// sumOf is how many numbers the weights take. It is false if there are too
// many of them or one is none.
func sumOf(told []int) (int, bool) {
	if len(told) > MaxTold {
		return 0, false
	}
	sum := 0
	for _, w := range told {
		if w < 0 || w > api.MaxBits {
			return 0, false
		}
		sum += numbers(w)
	}
	return sum, true
}

// numbers is how many numbers the code of a symbol of such a weight takes.
func numbers(weight int) int {
	return 1 << weight >> 1
}

// widthOf is how many bits x has in binary.
func widthOf(x int) int {
	n := 0
	for x>>n > 0 {
		n++
	}
	return n
}

// has: a symbol has this weight.
func (t *Tree) has(weight int) bool {
	for _, w := range t.weights {
		if w == weight {
			return true
		}
	}
	return false
}

// lay lays the codes over the numbers of log bits.
func (t *Tree) lay() {
	number := 0
	for weight := 1; weight <= t.log; weight++ {
		for symbol, w := range t.weights {
			if w == weight {
				number = t.layOne(symbol, number)
			}
		}
	}
}

// layOne lays a symbol's code and tells the number behind it.
func (t *Tree) layOne(symbol int, number int) int {
	t.firsts[symbol] = number
	end := number + numbers(t.weights[symbol])
	for i := number; i < end; i++ {
		t.symbols[i] = byte(symbol)
	}
	return end
}

// Next reads the symbol that comes next. It is false if not all bits of its
// code are there. Bit by bit, so that none is read that is not its own.
func (t *Tree) Next(in *bits.Stream) (byte, bool) {
	code := 0
	for width := 1; width <= t.log; width++ {
		bit, there := in.Read(1)
		if !there {
			return 0, false
		}
		code = code<<1 | bit
		symbol := t.symbols[code<<(t.log-width)]
		if t.log+1-t.weights[symbol] == width {
			return symbol, true
		}
	}
	return 0, false
}
