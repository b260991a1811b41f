package bits

// Stream reads from the last byte on, of each byte the highest bit first.
type Stream struct {
	bytes string
	left  int // bits that are not read yet
}

// OpenStream begins to read s. It is false if s is no stream.
func OpenStream(s string) (Stream, bool) {
	if len(s) == 0 {
		return Stream{}, false
	}
	last := s[len(s)-1]
	if last == 0 {
		return Stream{}, false
	}
	// The bits below the highest one that is set are the stream's.
	left := 8 * (len(s) - 1)
	for last > 1 {
		last >>= 1
		left++
	}
	return Stream{bytes: s, left: left}, true
}

// Left is how many bits are not read yet.
func (s *Stream) Left() int {
	return s.left
}

// Read reads a number of n bits, its highest bit first. It is false, and
// nothing is read, if they are not there.
func (s *Stream) Read(n int) (int, bool) {
	if n < 0 || n > s.left {
		return 0, false
	}
	x := 0
	for i := 0; i < n; i++ {
		s.left--
		x = x<<1 | bitAt(s.bytes, s.left)
	}
	return x, true
}
