package promises

import (
	"slices"
	"strconv"

	"frames/api"
)

// pull takes n bytes of s, or fails.
func pull(s *string, n int, e api.Errno) string {
	fail(n > len(*s), e)
	p := (*s)[:n]
	*s = (*s)[n:]
	return p
}

// pullNumber takes a number of n bytes, or fails.
func pullNumber(s *string, n int, e api.Errno) int {
	x := 0
	for i, b := range []byte(pull(s, n, e)) {
		x |= int(b) << (8 * i)
	}
	return x
}

// ahead is the bits of s as they are read forward.
func ahead(s string) string {
	bits := make([]byte, 0, 8*len(s))
	for _, b := range []byte(s) {
		for i := range 8 {
			bits = append(bits, '0'+b>>i&1)
		}
	}
	return string(bits)
}

// behind is the bits of s as they are read backward, if it is a stream.
func behind(s string, e api.Errno) string {
	fail(s == "" || s[len(s)-1] == 0, e)
	bits := []byte(ahead(s))
	slices.Reverse(bits)
	for bits[0] == '0' {
		bits = bits[1:]
	}
	return string(bits[1:])
}

// lowest is the number of bits that were read forward.
func lowest(bits string) int {
	x := 0
	for i := range bits {
		x += int(bits[i]-'0') << i
	}
	return x
}

// highest is the number of bits that were read backward.
func highest(bits string) int {
	x := 0
	for i := range bits {
		x = 2*x + int(bits[i]-'0')
	}
	return x
}

// compressed reads a compressed block.
func (m *model) compressed(s string) {
	first := s
	says := literals(&s, uint64(m.most), &m.codes)
	m.noting().lits, m.noting().lkind, m.noting().form = says, int(first[0]&3), int(first[0]>>2&3)
	a := pullNumber(&s, 1, api.ErrSeqs)
	switch {
	case a == 255:
		a = 32512 + pullNumber(&s, 2, api.ErrSeqs)
	case a >= 128:
		a = (a-128)*256 + pullNumber(&s, 1, api.ErrSeqs)
	}
	if a > 0 {
		m.sequences(s, a, says)
		return
	}
	fail(s != "", api.ErrSeqs)
	m.give(says)
}

func literals(s *string, most uint64, codes *map[string]byte) string {
	fail(*s == "", api.ErrLits)
	kind, form := int((*s)[0]&3), int((*s)[0]>>2&3)
	if kind < 2 {
		head := pullNumber(s, []int{1, 2, 1, 3}[form], api.ErrLits)
		size := head >> []int{3, 4, 3, 4}[form]
		fail(uint64(size) > most, api.ErrLits)
		if kind == 0 {
			return pull(s, size, api.ErrLits)
		}
		b := pull(s, 1, api.ErrLits)
		return string(slices.Repeat([]byte(b), size))
	}
	head := pullNumber(s, []int{3, 3, 4, 5}[form], api.ErrLits)
	mask := []int{1<<10 - 1, 1<<10 - 1, 1<<14 - 1, 1<<18 - 1}[form]
	size, width := head>>4&mask, head>>4/(mask+1)
	fail(uint64(size) > most || form > 0 && size < 6, api.ErrLits)
	rest := pull(s, width, api.ErrLits)
	if kind == 2 {
		*codes = readTree(&rest)
	}
	fail(*codes == nil, api.ErrTree)
	if form == 0 {
		return decoded(rest, *codes, size)
	}
	var sizes [3]int
	for i := range sizes {
		sizes[i] = pullNumber(&rest, 2, api.ErrStream)
	}
	quarter := (size + 3) / 4
	says := ""
	for i := range sizes {
		says += decoded(pull(&rest, sizes[i], api.ErrStream), *codes, quarter)
	}
	return says + decoded(rest, *codes, size-3*quarter)
}

// decoded is the n literals of a stream.
func decoded(s string, codes map[string]byte, n int) string {
	bits := behind(s, api.ErrStream)
	var says []byte
	for len(says) < n {
		width := 1
		for {
			fail(width > len(bits), api.ErrStream)
			if b, is := codes[bits[:width]]; is {
				says = append(says, b)
				break
			}
			width++
		}
		bits = bits[width:]
	}
	fail(bits != "", api.ErrStream)
	return string(says)
}

// readTree reads a tree and tells its codes.
func readTree(s *string) map[string]byte {
	h := pullNumber(s, 1, api.ErrTree)
	var weights []int
	if h >= 128 {
		for _, b := range []byte(pull(s, (h-127+1)/2, api.ErrTree)) {
			weights = append(weights, int(b)/16, int(b)%16)
		}
		weights = weights[:h-127]
	} else {
		weights = tableWeights(pull(s, h, api.ErrTree))
	}
	fail(len(weights) > 255, api.ErrTree)
	sum, ones := 0, 0
	for _, w := range weights {
		fail(w > 11, api.ErrTree)
		sum += []int{0, 1, 2, 4, 8, 16, 32, 64, 128, 256, 512, 1024}[w]
		if w == 1 {
			ones++
		}
	}
	fail(sum == 0 || sum >= 2048 || ones == 0, api.ErrTree)
	log := len(trimmed(sum))
	k := slices.Index([]int{1, 2, 4, 8, 16, 32, 64, 128, 256, 512, 1024}, 1<<log-sum)
	fail(k < 0, api.ErrTree)
	weights = append(weights, k+1)
	codes := map[string]byte{}
	number := 0
	for weight := 1; weight <= 11; weight++ {
		for symbol, w := range weights {
			if w == weight {
				codes[high(number, log)[:log+1-w]] = byte(symbol)
				number += 1 << (w - 1)
			}
		}
	}
	return codes
}

// trimmed is x in binary.
func trimmed(x int) string {
	if x == 0 {
		return ""
	}
	return strconv.FormatInt(int64(x), 2)
}

// tableWeights is the weights that a table and the stream behind it tell.
func tableWeights(s string) []int {
	accuracy, counts, rest := readCounts(s, 6, 11, api.ErrTree)
	states := statesOf(accuracy, counts)
	bits := behind(rest, api.ErrTree)
	fail(len(bits) < 2*accuracy, api.ErrTree)
	at := []int{highest(bits[:accuracy]), highest(bits[accuracy : 2*accuracy])}
	bits = bits[2*accuracy:]
	var weights []int
	for turn := 0; ; turn = 1 - turn {
		state := states[at[turn]]
		weights = append(weights, state.symbol)
		fail(len(weights) > 255, api.ErrTree)
		if len(bits) < state.needs {
			return append(weights, states[at[1-turn]].symbol)
		}
		at[turn] = state.next + highest(bits[:state.needs])
		bits = bits[state.needs:]
	}
}

// readCounts reads a table's head (P9) and tells what stands behind it.
func readCounts(s string, top, last int, e api.Errno) (accuracy int, counts []int, rest string) {
	bits := ahead(s)
	read := func(n int) int {
		fail(n > len(bits), e)
		x := lowest(bits[:n])
		bits = bits[n:]
		return x
	}
	accuracy = read(4) + 5
	fail(accuracy > top, e)
	for left := 1 << accuracy; left > 0; {
		n := len(trimmed(left + 1))
		spare := 1<<n - 1 - (left + 1)
		v := read(n - 1)
		if v >= spare && read(1) == 1 {
			v += 1<<(n-1) - spare
		}
		counts = append(counts, v-1)
		switch v {
		case 0:
			left--
		case 1:
			for more := 3; more == 3; {
				more = read(2)
				counts = append(counts, make([]int, more)...)
			}
		default:
			left -= v - 1
		}
		fail(len(counts) > last+1, e)
	}
	return accuracy, counts, s[len(s)-len(bits)/8:]
}

// place is a state of a table.
type place struct {
	symbol, needs, next int
}

// statesOf lays a table's states: each symbol takes the next state of the round
// that nobody has.
func statesOf(accuracy int, counts []int) []place {
	size := 1 << accuracy
	taken := make([]int, size)
	end := size
	for symbol, c := range counts {
		if c == -1 {
			end--
			taken[end] = symbol
		}
	}
	var round []int
	for i := range size {
		if at := i * (size/2 + size/8 + 3) % size; at < end {
			round = append(round, at)
		}
	}
	for symbol, c := range counts {
		for ; c > 0; c-- {
			taken[round[0]] = symbol
			round = round[1:]
		}
	}
	states := make([]place, size)
	for symbol, c := range counts {
		value := c
		if c == -1 {
			value = 1
		}
		for i := range states {
			if taken[i] == symbol {
				bits := 0
				for value*(1<<bits) < size {
					bits++
				}
				states[i] = place{symbol, bits, value*(1<<bits) - size}
				value++
			}
		}
	}
	return states
}
