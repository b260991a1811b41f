package bits

// Writer lays numbers down, each with its lowest bit first. Forward reads them
// in the same order, Stream in the other: what is to be read first of a stream
// is laid last. The zero value has laid nothing.
type Writer struct {
	bytes []byte
	laid  int // bits
}

// Add lays the n lowest bits of x.
func (w *Writer) Add(x int, n int) {
	for i := 0; i < n; i++ {
		if w.laid%8 == 0 {
			w.bytes = append(w.bytes, 0)
		}
		bit := byte(x >> i & 1)
		w.bytes[w.laid/8] |= bit << (w.laid % 8)
		w.laid++
	}
}

// Forward is what was laid, to be read forward.
func (w *Writer) Forward() string {
	return string(w.bytes)
}

// EndStream is what was laid, to be read as a stream. Nothing may be laid
// behind it, since it lays the bit that a reader passes over.
func (w *Writer) EndStream() string {
	w.Add(1, 1)
	return string(w.bytes)
}
