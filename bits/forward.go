// Package bits reads numbers out of bits, forward and backward, and lays them
// down.
package bits

// Forward reads from the first byte on, of each byte the lowest bit first.
type Forward struct {
	bytes string
	done  int // bits that were read
}

// OpenForward begins to read s.
func OpenForward(s string) Forward {
	return Forward{bytes: s}
}

// Read reads a number of n bits, its lowest bit first. It is false, and
// nothing is read, if they are not there.
func (f *Forward) Read(n int) (int, bool) {
	if n < 0 || n > 8*len(f.bytes)-f.done {
		return 0, false
	}
	x := 0
	for i := 0; i < n; i++ {
		x |= bitAt(f.bytes, f.done) << i
		f.done++
	}
	return x, true
}

// Rest is what stands behind the last byte that was begun.
func (f *Forward) Rest() string {
	return f.bytes[(f.done+7)/8:]
}

// bitAt is the bit of that place in s, which must be there.
func bitAt(s string, place int) int {
	return int(s[place/8]) >> (place % 8) & 1
}
