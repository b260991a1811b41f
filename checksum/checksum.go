// Package checksum takes the checksum of bytes that come in pieces (P4).
package checksum

// The factors A to E of the document.
const (
	factorA uint64 = 0x9E3779B185EBCA87
	factorB uint64 = 0xC2B2AE3D27D4EB4F
	factorC uint64 = 0x165667B19E3779F9
	factorD uint64 = 0x85EBCA77C2B2AE63
	factorE uint64 = 0x27D4EB2F165667C5
)

// width: so many bytes go into the lanes at once.
const width = 32

// Sum is a checksum under way. Its zero value has taken nothing.
type Sum struct {
	lanes [4]uint64
	rest  [width]byte // the first count % width of these are in no lane yet
	count uint64      // all bytes that were taken
}

// Start forgets what was taken.
func (s *Sum) Start() {
	*s = Sum{}
}

// Add takes the bytes of list one at a time, so that nothing can hang on how they were cut.
func (s *Sum) Add(list []byte) {
	for i := 0; i < len(list); i++ {
		place := s.count % width
		s.rest[place] = list[i]
		s.count++
		if place == width-1 {
			s.fold()
		}
	}
}

// fold brings a whole width of bytes into the lanes. The lanes begin at the
// first of them, not earlier, so that the zero value needs no call ahead.
func (s *Sum) fold() {
	if s.count == width {
		s.lanes = firstLanes()
	}
	for k := 0; k < len(s.lanes); k++ {
		x := s.number(8*k, 8)
		s.lanes[k] = lap(s.lanes[k], x)
	}
}

// firstLanes adds a variable: the compiler refuses a sum of constants that overflows.
func firstLanes() [4]uint64 {
	first := factorA
	return [4]uint64{first + factorB, factorB, 0, -first}
}

// number is that of the n bytes of rest from place at on, the lowest first.
func (s *Sum) number(at int, n int) uint64 {
	x := uint64(0)
	for i := n - 1; i >= 0; i-- {
		x = x<<8 | uint64(s.rest[(at+i)%width])
	}
	return x
}

// Value is the checksum of what was taken; the sum stays as it is.
func (s *Sum) Value() uint64 {
	h := factorE
	if s.count >= width {
		h = s.joined()
	}
	h += s.count
	h = s.withRest(h)
	return finish(h)
}

// joined makes one number of the four lanes.
func (s *Sum) joined() uint64 {
	h := turn(s.lanes[0], 1)
	h += turn(s.lanes[1], 7)
	h += turn(s.lanes[2], 12)
	h += turn(s.lanes[3], 18)
	for k := 0; k < len(s.lanes); k++ {
		h = (h^lap(0, s.lanes[k]))*factorA + factorD
	}
	return h
}

// withRest is h with the bytes that are in no lane brought in.
func (s *Sum) withRest(h uint64) uint64 {
	held := int(s.count % width)
	at := 0
	for at+8 <= held {
		x := s.number(at, 8)
		h ^= lap(0, x)
		h = turn(h, 27)*factorA + factorD
		at += 8
	}
	if at+4 <= held {
		x := s.number(at, 4)
		h = turn(h^x*factorA, 23)*factorB + factorC
		at += 4
	}
	for at < held {
		x := s.number(at, 1)
		h = turn(h^x*factorE, 11) * factorA
		at++
	}
	return h
}

// finish lets the high bits of h bear on the low ones.
func finish(h uint64) uint64 {
	h = (h ^ h>>33) * factorB
	h = (h ^ h>>29) * factorC
	return h ^ h>>32
}

// lap is the lane v after it took the number x.
func lap(v uint64, x uint64) uint64 {
	return turn(v+x*factorB, 31) * factorA
}

// turn moves the bits of x k places up; those that fall out come in below.
func turn(x uint64, k uint) uint64 {
	return x<<k | x>>(64-k)
}
