package bits

import (
	"math/rand"
	"testing"
)

func TestWriter(t *testing.T) {
	w := Writer{}
	if w.Forward() != "" {
		t.Errorf("nothing was laid: %x", w.Forward())
	}
	for _, c := range []asked{{n: 1, x: 0}, {n: 3, x: 5}, {n: 4, x: 9}, {n: 0, x: 7}, {n: 2, x: 3}} {
		w.Add(c.x, c.n)
	}
	if w.Forward() != "\x9a\x03" { // as TestForward reads it
		t.Errorf("Forward() = %x", w.Forward())
	}
	if s := w.EndStream(); s != "\x9a\x07" {
		t.Errorf("EndStream() = %x", s)
	}
	empty := Writer{}
	if s := empty.EndStream(); s != "\x01" {
		t.Errorf("EndStream() of nothing = %x", s)
	}
}

// TestWhatIsLaidIsRead: forward in the same order, backward in the other.
func TestWhatIsLaidIsRead(t *testing.T) {
	r := rand.New(rand.NewSource(1))
	for range 500 {
		w := Writer{}
		var laid []asked
		for range r.Intn(30) {
			n := r.Intn(20)
			c := asked{n: n, x: r.Intn(1 << n)}
			w.Add(c.x|r.Intn(2)<<n, n)
			laid = append(laid, c)
		}
		f := OpenForward(w.Forward())
		for i, c := range laid {
			if x, there := f.Read(c.n); x != c.x || !there {
				t.Fatalf("number %d of %v is read as %d, %v", i, laid, x, there)
			}
		}
		s, fit := OpenStream(w.EndStream())
		for i := len(laid) - 1; i >= 0; i-- {
			if x, there := s.Read(laid[i].n); x != laid[i].x || !there {
				t.Fatalf("number %d of %v is read backward as %d, %v", i, laid, x, there)
			}
		}
		if !fit || s.Left() != 0 {
			t.Fatalf("%v: %v, %d bits are left", laid, fit, s.Left())
		}
	}
}
