package promises

import (
	"slices"
	"sort"
	"strings"
)

// Bits are told as texts of 0 and 1, in the order in which they are read.

// low is v as a number of n bits that is read forward.
func low(v, n int) string {
	b := make([]byte, n)
	for i := range b {
		b[i] = '0' + byte(v>>i&1)
	}
	return string(b)
}

// high is v as a number of n bits that is read backward.
func high(v, n int) string {
	b := []byte(low(v, n))
	slices.Reverse(b)
	return string(b)
}

// forward is the bytes that hold the bits when they are read forward.
func forward(bits string) string {
	b := make([]byte, (len(bits)+7)/8)
	for i := range bits {
		b[i/8] |= (bits[i] - '0') << (i % 8)
	}
	return string(b)
}

// backward is the stream that holds the bits.
func backward(bits string) string {
	turned := []byte(bits)
	slices.Reverse(turned)
	return forward(string(turned) + "1")
}

// lastOf is the weight that the weights leave over.
func lastOf(told []int) (last, log int) {
	sum := 0
	for _, w := range told {
		if w > 0 {
			sum += 1 << (w - 1)
		}
	}
	for 1<<log <= sum {
		log++
	}
	for last = 1; 1<<(last-1) < 1<<log-sum; last++ {
	}
	return last, log
}

// codesOf is the codes of the symbols, of weights that are those of a tree.
func codesOf(told []int) []string {
	last, log := lastOf(told)
	weights := append(append([]int{}, told...), last)
	var symbols []int
	for s, w := range weights {
		if w > 0 {
			symbols = append(symbols, s)
		}
	}
	sort.SliceStable(symbols, func(i, j int) bool { return weights[symbols[i]] < weights[symbols[j]] })
	codes := make([]string, len(weights))
	number := 0
	for _, s := range symbols {
		codes[s] = high(number, log)[:log+1-weights[s]]
		number += 1 << (weights[s] - 1)
	}
	if number != 1<<log {
		panic("no tree")
	}
	return codes
}

// say is the bits that say text by the tree of these weights.
func say(told []int, text string) string {
	codes := codesOf(told)
	var b strings.Builder
	for i := range len(text) {
		b.WriteString(codes[text[i]])
	}
	return b.String()
}

// one is text in one stream.
func one(told []int, text string) string {
	return backward(say(told, text))
}

// quarters cuts text as four streams say it.
func quarters(text string) [4]string {
	q := (len(text) + 3) / 4
	return [4]string{text[:q], text[q : 2*q], text[2*q : 3*q], text[3*q:]}
}

// joined is four streams with their sizes ahead of them.
func joined(a, b, c, d string) string {
	return little(uint64(len(a)), 2) + little(uint64(len(b)), 2) + little(uint64(len(c)), 2) + a + b + c + d
}

// four is text in four streams.
func four(told []int, text string) string {
	p := quarters(text)
	return joined(one(told, p[0]), one(told, p[1]), one(told, p[2]), one(told, p[3]))
}

// outright is a tree whose weights are told outright.
func outright(told []int) string {
	s := little(uint64(127+len(told)), 1)
	for i := 0; i < len(told); i += 2 {
		b := told[i] << 4
		if i+1 < len(told) {
			b |= told[i+1]
		}
		s += little(uint64(b), 1)
	}
	return s
}

// rare stands for the count of a rare symbol.
const rare = -1

// share is the bits of a number of 0 to left + 1.
func share(v, left int) string {
	n := len(strings.TrimLeft(high(left+1, 20), "0"))
	spare := 1<<n - 1 - (left + 1)
	switch {
	case v < spare:
		return low(v, n-1)
	case v < 1<<(n-1):
		return low(v, n-1) + "0"
	}
	return low(v-1<<(n-1)+spare, n-1) + "1"
}

// run is the bits that tell how many more symbols have no state.
func run(n int) string {
	s := ""
	for ; n >= 3; n -= 3 {
		s += "11"
	}
	return s + low(n, 2)
}

// headOf is the bits of the head of a table with these counts.
func headOf(accuracy int, counts []int) string {
	bits := low(accuracy-5, 4)
	left := 1 << accuracy
	for i := 0; i < len(counts) && left > 0; i++ {
		switch c := counts[i]; c {
		case rare:
			bits += share(0, left)
			left--
		case 0:
			bits += share(1, left)
			more := 0
			for i+1 < len(counts) && counts[i+1] == 0 {
				more++
				i++
			}
			bits += run(more)
		default:
			bits += share(c+1, left)
			left -= c
		}
	}
	return bits
}

// reach is the state that says symbol and from which the state at is reached.
func reach(places []place, symbol, at int) int {
	for i, p := range places {
		if p.symbol == symbol && p.next <= at && at < p.next+1<<p.needs {
			return i
		}
	}
	panic("no such state")
}

// lastly is the k-th state that says symbol and needs a bit and more.
func lastly(places []place, symbol, k int) int {
	found := -1
	for i, p := range places {
		if p.symbol == symbol && p.needs > 0 {
			found = i
			if k == 0 {
				break
			}
			k--
		}
	}
	if found < 0 {
		panic("no such state")
	}
	return found
}

// walk is the bits by which two states say the weights in turn. The states at
// the end are free: the k-th of their symbols are taken.
func walk(accuracy int, counts, told []int, k int) string {
	places := statesOf(accuracy, counts)
	n := len(told)
	at := make([]int, n)
	bits := ""
	for i := n - 1; i >= 0; i-- {
		if i >= n-2 {
			at[i] = lastly(places, told[i], k)
			continue
		}
		at[i] = reach(places, told[i], at[i+2])
		p := places[at[i]]
		bits = high(at[i+2]-p.next, p.needs) + bits
	}
	return high(at[0], accuracy) + high(at[1], accuracy) + bits
}

// sized is a tree that is told by these bytes.
func sized(body string) string {
	if len(body) > 127 {
		panic("too many bytes for a table's tree")
	}
	return little(uint64(len(body)), 1) + body
}

// tabled is a tree whose weights are told by a table.
func tabled(accuracy int, counts, told []int) string {
	return sized(forward(headOf(accuracy, counts)) + backward(walk(accuracy, counts, told, 0)))
}

// plain is literals of the kinds 0 and 1; form 0 is form 2 for odd sizes.
func plain(kind, form, size int, body string) string {
	switch form {
	case 1:
		return little(uint64(kind|1<<2|size<<4), 2) + body
	case 3:
		return little(uint64(kind|3<<2|size<<4), 3) + body
	}
	return little(uint64(kind|size<<3), 1) + body
}

// codedHead is the head of literals of the kinds 2 and 3.
func codedHead(kind, form, size, width int) string {
	bits := []int{10, 10, 14, 18}[form]
	return little(uint64(kind|form<<2|size<<4|width<<(4+bits)), []int{3, 3, 4, 5}[form])
}

// coded is literals of the kinds 2 and 3.
func coded(kind, form, size int, body string) string {
	return codedHead(kind, form, size, len(body)) + body
}

// lits is a compressed block of these literals and no sequences.
func lits(last int, literals string) string {
	return block(last, 2, len(literals)+1, literals+"\x00")
}
