package table

import (
	"math/rand"
	"slices"
	"testing"

	"frames/bits"
	"frames/tally"
)

// randomTally is symbols up to top, some of them often.
func randomTally(r *rand.Rand, top int) tally.Tally {
	met := tally.Tally{}
	for range 2 + r.Intn(60) {
		met.Add(r.Intn(top + 1))
	}
	for range r.Intn(4) * 300 {
		met.Add(r.Intn(1 + r.Intn(top+1)))
	}
	return met
}

func TestShare(t *testing.T) {
	r := rand.New(rand.NewSource(1))
	for range 3000 {
		top := []int{1, 11, 31, 35, 52}[r.Intn(5)]
		met := randomTally(r, top)
		h := Share(&met, 8+r.Intn(2))
		sum := 0
		for symbol, count := range h.Counts {
			sum += count
			if (count > 0) != (met.Often[symbol] > 0) || count < 0 || h.Says(symbol) != (count > 0) {
				t.Fatalf("P9: %v is shared as %v", met.Often, h)
			}
		}
		if len(h.Counts) != len(met.Often) || sum != 1<<h.Accuracy || h.Accuracy < 5 || h.Says(-1) || h.Says(len(h.Counts)) {
			t.Fatalf("P9: %v is shared as %v", met.Often, h)
		}
		if out := told(h); !readAs(out, h) {
			t.Fatalf("P9: the head %v is told as %x", h, out)
		}
	}
	if h := Share(&tally.Tally{}, 9); h.Accuracy != 0 || h.Counts != nil {
		t.Errorf("P9: nothing is shared as %v", h)
	}
}

// told is the bytes of a head.
func told(h Head) string {
	out := bits.Writer{}
	h.Write(&out)
	return out.Forward()
}

// readAs: these bytes are just this head.
func readAs(s string, h Head) bool {
	in := bits.OpenForward(s)
	got, fit := ReadHead(&in, MaxAccuracy, 60)
	return fit && got.Accuracy == h.Accuracy && slices.Equal(got.Counts, h.Counts) && in.Rest() == ""
}

// TestWriteHead: heads of all accuracies, with rare symbols, and with runs of
// symbols that have no state.
func TestWriteHead(t *testing.T) {
	r := rand.New(rand.NewSource(2))
	for range 5000 {
		h := Head{Accuracy: 5 + r.Intn(5)}
		left := 1 << h.Accuracy
		for left > 0 && len(h.Counts) < 60 {
			count := r.Intn(left + 1)
			switch r.Intn(4) {
			case 0:
				h.Counts = append(h.Counts, Rare)
				left--
				continue
			case 1:
				h.Counts = append(h.Counts, make([]int, min(r.Intn(9), 59-len(h.Counts)))...)
			case 2:
				count = 1 + r.Intn(min(left, 3))
			}
			if len(h.Counts) == 59 {
				count = left
			}
			h.Counts = append(h.Counts, count)
			left -= count
		}
		if out := told(h); left == 0 && !readAs(out, h) {
			t.Fatalf("P9: the head %v is told as %x", h, out)
		}
	}
}

func TestOnlyIsOne(t *testing.T) {
	for symbol := range 53 {
		h := Only(symbol)
		if got := Lay(h); got != One(symbol) || !h.Says(symbol) || symbol > 0 && h.Says(symbol-1) {
			t.Errorf("P10: %v is no table that says %d alone", h, symbol)
		}
	}
}

// TestGoBack: symbols that are laid down from the last one on are read from the
// first one on.
func TestGoBack(t *testing.T) {
	r := rand.New(rand.NewSource(3))
	for range 300 {
		met := randomTally(r, 52)
		table := Lay(Share(&met, MaxAccuracy))
		var symbols []int
		for len(symbols) < 20 {
			if symbol := r.Intn(len(met.Often)); met.Often[symbol] > 0 {
				symbols = append(symbols, symbol)
			}
		}
		out := bits.Writer{}
		at := table.Saying(symbols[19])
		for i := 18; i >= 0; i-- {
			at = table.GoBack(symbols[i], at, &out)
		}
		table.WriteStart(at, &out)
		in, _ := bits.OpenStream(out.EndStream())
		at, _ = table.Start(&in)
		for i, symbol := range symbols {
			if got := table.Symbol(at); got != symbol {
				t.Fatalf("P9: symbol %d of %v is read as %d", i, symbols, got)
			}
			if i < 19 {
				at, _ = table.GoOn(at, &in)
			}
		}
		if in.Left() != 0 {
			t.Fatalf("P9: %d bits are left behind %v", in.Left(), symbols)
		}
	}
}
