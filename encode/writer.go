package encode

// writer holds the bytes that were written so far.
type writer struct {
	bytes []byte
}

// number writes x as a number of n bytes.
func (w *writer) number(x int, n int) {
	for i := 0; i < n; i++ {
		w.bytes = append(w.bytes, byte(x>>(8*i)))
	}
}

// text writes the bytes of s.
func (w *writer) text(s string) {
	w.bytes = append(w.bytes, s...)
}
