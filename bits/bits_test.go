package bits

import "testing"

// asked is a number of bits, and what is read.
type asked struct {
	n, x  int
	there bool
}

func TestForward(t *testing.T) {
	f := OpenForward("\x9a\x03") // the bits 0101 1001, 1100 0000
	rests := []string{"\x9a\x03", "\x03", "\x03", "\x03", "\x03", "\x03", "", "", "", "", ""}
	for i, c := range []asked{{0, 0, true}, {1, 0, true}, {3, 5, true}, {13, 0, false}, {-1, 0, false}, {4, 9, true}, {2, 3, true}, {7, 0, false}, {6, 0, true}, {0, 0, true}, {1, 0, false}} {
		x, there := f.Read(c.n)
		if x != c.x || there != c.there {
			t.Errorf("step %d: Read(%d) = %d, %v, want %d, %v", i, c.n, x, there, c.x, c.there)
		}
		if rest := f.Rest(); rest != rests[i] {
			t.Errorf("step %d: Rest() = %x, want %x", i, rest, rests[i])
		}
	}
}

func TestStream(t *testing.T) {
	s, fit := OpenStream("\x4d\x0b") // behind the first 1: 011, 0100 1101
	if !fit || s.Left() != 11 {
		t.Fatalf("OpenStream: %v, %d bits", fit, s.Left())
	}
	lefts := []int{11, 10, 10, 10, 7, 7, 0, 0, 0}
	for i, c := range []asked{{0, 0, true}, {1, 0, true}, {11, 0, false}, {-1, 0, false}, {3, 6, true}, {8, 0, false}, {7, 77, true}, {0, 0, true}, {1, 0, false}} {
		x, there := s.Read(c.n)
		if x != c.x || there != c.there || s.Left() != lefts[i] {
			t.Errorf("step %d: Read(%d) = %d, %v, and %d left, want %d, %v, %d", i, c.n, x, there, s.Left(), c.x, c.there, lefts[i])
		}
	}
}

func TestNoStream(t *testing.T) {
	for _, s := range []string{"", "\x00", "\x01\x00", "\xff\xff\x00"} {
		if in, fit := OpenStream(s); fit || in.Left() != 0 {
			t.Errorf("OpenStream(%x): %v, %d bits", s, fit, in.Left())
		}
	}
	for i := range 8 {
		s := string([]byte{0, 1 << i})
		if in, fit := OpenStream(s); !fit || in.Left() != 8+i {
			t.Errorf("OpenStream(%x): %v, %d bits", s, fit, in.Left())
		}
	}
}
