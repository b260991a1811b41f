package tree

import (
	"math/rand"
	"testing"

	"frames/api"
	"frames/bits"
	"frames/tally"
)

// tallies is of two symbols and more: equally often, at random, and each far
// more often than the one ahead of it.
func tallies() []tally.Tally {
	r := rand.New(rand.NewSource(1))
	var l []tally.Tally
	for n := 2; n <= 256; n++ {
		equal, steep, random, last := tally.Tally{}, tally.Tally{}, tally.Tally{}, tally.Tally{}
		for symbol := range n {
			equal.Add(symbol)
			for range 1 + 1<<min(symbol, 11) {
				steep.Add(symbol)
			}
			for range r.Intn(2) * r.Intn(50) {
				random.Add(symbol)
			}
		}
		for range 4000 {
			last.Add(0)
		}
		last.Add(n - 1)
		random.Add(0)
		random.Add(n - 1)
		l = append(l, equal, steep, random, last)
	}
	return l
}

// TestWeigh: the weights are those of a tree, which has a code for just what
// came.
func TestWeigh(t *testing.T) {
	for _, met := range tallies() {
		weights := Weigh(&met)
		end := len(weights) - 1
		tree, fit := Make(weights[:end])
		if !fit || len(weights) != len(met.Often) || tree.weights[end] != weights[end] {
			t.Fatalf("P8: %v have the weights %v", met.Often, weights)
		}
		for symbol, n := range met.Often {
			if (n > 0) != (weights[symbol] > 0) {
				t.Fatalf("P14: %v have the weights %v", met.Often, weights)
			}
		}
		if tree.log > api.MaxBits {
			t.Fatalf("P8: %v have codes of %d bits", met.Often, tree.log)
		}
	}
}

// TestWeightsAreFair: what comes more often has no longer code, and equals have
// codes of at most two lengths.
func TestWeightsAreFair(t *testing.T) {
	for _, met := range tallies() {
		weights := Weigh(&met)
		for a, n := range met.Often {
			for b, m := range met.Often {
				if n > m && m > 0 && weights[a] < weights[b] || n == m && weights[a] > weights[b]+1 {
					t.Fatalf("%v have the weights %v: %d, %d", met.Often, weights, a, b)
				}
			}
		}
	}
}

func TestOutright(t *testing.T) {
	for _, met := range tallies() {
		weights := Weigh(&met)
		told := weights[:len(weights)-1]
		if len(told) > MaxOutright {
			continue
		}
		want, _ := Make(told)
		if got, rest, fit := Read(Outright(told) + "xyz"); got != want || rest != "xyz" || !fit {
			t.Fatalf("P8: the weights %v are told as %x", told, Outright(told))
		}
	}
}

func TestPut(t *testing.T) {
	for _, met := range tallies() {
		weights := Weigh(&met)
		tree, _ := Make(weights[:len(weights)-1])
		out := bits.Writer{}
		for symbol := len(weights) - 1; symbol >= 0; symbol-- {
			tree.Put(byte(symbol), &out) // lays nothing where there is no code
		}
		in, _ := bits.OpenStream(out.EndStream())
		for symbol, w := range weights {
			if w == 0 {
				continue
			}
			if got, there := tree.Next(&in); int(got) != symbol || !there {
				t.Fatalf("P8: %v: the code of %d is read as %d, %v", weights, symbol, got, there)
			}
		}
		if in.Left() != 0 {
			t.Fatalf("P8: %v: %d bits are left", weights, in.Left())
		}
	}
}
