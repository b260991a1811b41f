package decode

// reader holds the bytes that are yet to be read.
type reader struct {
	rest string
}

// take reads n bytes. It is false, and nothing is read, if they are not there.
func (r *reader) take(n int) (string, bool) {
	if n < 0 || n > len(r.rest) {
		return "", false
	}
	part := r.rest[:n]
	r.rest = r.rest[n:]
	return part, true
}

// number reads a number of n bytes, 8 at most. That of no bytes is 0, so a
// field that may be missing is read like any other.
func (r *reader) number(n int) (uint64, bool) {
	part, there := r.take(n)
	if !there {
		return 0, false
	}
	x := uint64(0)
	for i := len(part) - 1; i >= 0; i-- {
		x = x<<8 | uint64(part[i])
	}
	return x, true
}
