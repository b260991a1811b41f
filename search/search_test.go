package search

import (
	"math/rand"
	"strings"
	"testing"
)

// carried is what literals and copies say behind s.
func carried(s, literals string, copies []Copy) string {
	b := []byte(s)
	for _, c := range copies {
		b = append(b, literals[:c.Literals]...)
		literals = literals[c.Literals:]
		for range c.Length {
			b = append(b, b[len(b)-c.Distance])
		}
	}
	return string(b) + literals
}

func TestCut(t *testing.T) {
	r := rand.New(rand.NewSource(1))
	for range 500 {
		b := make([]byte, r.Intn(600))
		top := 1 + r.Intn(5)
		for i := range b {
			b[i] = byte(r.Intn(top) * 80)
		}
		src := string(b)
		window, looks := 1+r.Intn(300), r.Intn(33)
		f := Open(src, window, looks)
		begin := r.Intn(len(src) + 1)
		end := begin + r.Intn(len(src)-begin+1)
		literals, copies := f.Cut(begin, end)
		if got := carried(src[:begin], literals, copies); got != src[:end] {
			t.Fatalf("P16: %q from %d to %d is cut into %q, %v", src, begin, end, literals, copies)
		}
		for _, c := range copies {
			if c.Distance < 1 || c.Distance > window || c.Length < least || looks == 0 {
				t.Fatalf("P16: %q: copy %v, with a window of %d and %d looks", src, c, window, looks)
			}
		}
	}
}

// TestLooks: a search looks at the nearest places where the same bytes begin,
// and takes the longest copy of these.
func TestLooks(t *testing.T) {
	const src = "abcdefgh1abcdefg2abcdef3abcde4abcdefgh"
	for looks, want := range []Copy{{}, {0, 6, 5}, {0, 13, 6}, {0, 21, 7}, {0, 30, 8}, {0, 30, 8}} {
		f := Open(src, 100, looks)
		if got := f.find(30, len(src)); got != want {
			t.Errorf("P16: with %d looks %v, want %v", looks, got, want)
		}
	}
	f := Open(src, 100, 2)
	if got := f.find(30, 35); got != (Copy{0, 6, 5}) {
		t.Errorf("P16: of two that are equally long %v", got)
	}
}

// TestOtherBytesAreNoLooks: places of the same bucket where other bytes begin
// do not keep a search from the one where the same do.
func TestOtherBytesAreNoLooks(t *testing.T) {
	r := rand.New(rand.NewSource(2))
	first := "abcd"
	others := ""
	for len(others) < 40 {
		b := make([]byte, least)
		r.Read(b)
		if bucket(string(b)) == bucket(first) {
			others += string(b)
		}
	}
	src := first + others + first
	f := Open(src, 100, 1)
	if got := f.find(len(src)-least, len(src)); got != (Copy{0, len(src) - least, least}) {
		t.Errorf("P16: %v", got)
	}
}

func TestAgainAndAgain(t *testing.T) {
	src := strings.Repeat("abcdefg", 30)
	f := Open(src, len(src), 4)
	literals, copies := f.Cut(0, len(src))
	if literals != "abcdefg" || len(copies) != 1 || copies[0] != (Copy{7, 7, 203}) {
		t.Errorf("P16: %q, %v", literals, copies)
	}
}
