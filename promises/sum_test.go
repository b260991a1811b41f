package promises

import (
	"math/rand"
	"strings"
	"testing"

	"frames/frames"
)

// some is n bytes of all values, the same ones at each call.
func some(n int) string {
	b := make([]byte, n)
	rand.New(rand.NewSource(int64(n))).Read(b)
	return string(b)
}

func sumBy(pieces ...string) uint64 {
	x := frames.NewSum()
	for _, p := range pieces {
		x.Add([]byte(p))
	}
	return uint64(x.Value())
}

func TestSumKnownValues(t *testing.T) {
	for _, c := range []struct {
		s string
		v int
	}{
		{"", -1205034819632174695},
		{"a", -3292477735350538661},
		{"abc", 0x44BC2CF5AD770999},
	} {
		x := frames.NewSum()
		x.Add([]byte(c.s))
		if v := x.Value(); v != c.v {
			t.Errorf("P4: of %q Value = %d, want %d", c.s, v, c.v)
		}
		if v := sumOf(c.s); int(v) != c.v {
			t.Errorf("the tests' own checksum of %q is %d, want %d", c.s, int(v), c.v)
		}
	}
	if v := frames.NewSum().Value(); v != -1205034819632174695 {
		t.Errorf("P4: without any Add Value = %d", v)
	}
}

func TestSumOfEveryLength(t *testing.T) {
	for n := 0; n <= 300; n++ {
		s := some(n)
		if v, want := sumBy(s), sumOf(s); v != want {
			t.Errorf("P4: of %d bytes Value = %#x, want %#x", n, v, want)
		}
	}
	for _, n := range []int{1<<16 - 1, 1 << 16, 1<<17 + 3, 1<<20 + 29} {
		s := some(n)
		if v, want := sumBy(s), sumOf(s); v != want {
			t.Errorf("P4: of %d bytes Value = %#x, want %#x", n, v, want)
		}
	}
}

func TestSumOfEveryByte(t *testing.T) {
	for b := 0; b < 256; b++ {
		for _, n := range []int{1, 4, 8, 33, 45} {
			s := strings.Repeat(string([]byte{byte(b)}), n)
			if v, want := sumBy(s), sumOf(s); v != want {
				t.Errorf("P4: of %d bytes %#x Value = %#x, want %#x", n, b, v, want)
			}
		}
	}
}

func TestSumCutAnywhere(t *testing.T) {
	for n := 0; n <= 100; n++ {
		s := some(n)
		want := sumOf(s)
		for i := 0; i <= n; i++ {
			if v := sumBy(s[:i], s[i:]); v != want {
				t.Fatalf("P4: %d bytes, cut at %d: %#x, want %#x", n, i, v, want)
			}
			j := i + (n-i)/2
			if v := sumBy(s[:i], "", s[i:j], s[j:]); v != want {
				t.Fatalf("P4: %d bytes, cut at %d and %d: %#x, want %#x", n, i, j, v, want)
			}
		}
	}
	s := some(200)
	for width := 1; width <= 70; width++ {
		x := frames.NewSum()
		for i := 0; i < len(s); i += width {
			x.Add([]byte(s[i:min(i+width, len(s))]))
		}
		if v := uint64(x.Value()); v != sumOf(s) {
			t.Errorf("P4: in pieces of %d: %#x, want %#x", width, v, sumOf(s))
		}
	}
}

func TestSumValueAtAnyTime(t *testing.T) {
	s := some(140)
	x := frames.NewSum()
	for i := 0; i <= len(s); i++ {
		first, again := uint64(x.Value()), uint64(x.Value())
		if want := sumOf(s[:i]); first != want || again != want {
			t.Fatalf("P4: Value after %d bytes: %#x, then %#x, want %#x", i, first, again, want)
		}
		if i < len(s) {
			x.Add([]byte{s[i]})
		}
	}
}

func TestSumStart(t *testing.T) {
	x := frames.NewSum()
	for _, n := range []int{0, 1, 7, 31, 32, 33, 64, 95, 200} {
		for _, m := range []int{0, 1, 5, 31, 32, 40, 64, 77} {
			x.Add([]byte(some(n)))
			x.Start()
			if v := uint64(x.Value()); v != sumOf("") {
				t.Errorf("P4: Start behind %d bytes, then Value = %#x", n, v)
			}
			x.Add([]byte(some(m)))
			if v, want := uint64(x.Value()), sumOf(some(m)); v != want {
				t.Errorf("P4: %d bytes, Start, %d bytes: %#x, want %#x", n, m, v, want)
			}
			x.Start()
			x.Start()
		}
	}
}

func TestSumOfNothing(t *testing.T) {
	x := frames.NewSum()
	x.Add(nil)
	x.Add([]byte{})
	x.Add([]byte("a"))
	x.Add(nil)
	x.Add(make([]byte, 0, 50))
	if v, want := uint64(x.Value()), sumOf("a"); v != want {
		t.Errorf("P4: with empty lists between: %#x, want %#x", v, want)
	}
}

func TestSumOnlyReads(t *testing.T) {
	for n := 0; n <= 70; n++ {
		whole := []byte(some(n + 40))
		x := frames.NewSum()
		x.Add(whole[:n]) // what stands behind is spare room
		x.Value()
		if string(whole) != some(n+40) {
			t.Fatalf("P2: Add of %d bytes changed the list or the room behind it", n)
		}
		for i := range whole {
			whole[i] ^= 0xFF
		}
		if v, want := uint64(x.Value()), sumOf(some(n + 40)[:n]); v != want {
			t.Fatalf("P2: %d bytes that were changed behind Add: %#x, want %#x", n, v, want)
		}
		x.Start()
		x.Add([]byte("abc"))
		for i := range whole {
			if whole[i]^0xFF != some(n + 40)[i] {
				t.Fatalf("P2: a later Add changed a list of %d bytes", n)
			}
		}
	}
}

func TestSumsInTurn(t *testing.T) {
	texts := []string{some(90), some(91), some(33), some(64), ""}
	sums := make([]*frames.Sum, len(texts))
	for k := range sums {
		sums[k] = frames.NewSum()
		if sums[k] == nil {
			t.Fatal("P1: NewSum gave nil")
		}
	}
	for i := 0; i < 91; i++ {
		for k, s := range texts {
			if i < len(s) {
				sums[k].Add([]byte{s[i]})
			}
		}
		frames.NewSum().Add([]byte("other"))
	}
	sums[4].Start()
	for k, s := range texts {
		if v, want := uint64(sums[k].Value()), sumOf(s); v != want {
			t.Errorf("P3: sum %d of several: %#x, want %#x", k, v, want)
		}
	}
}
