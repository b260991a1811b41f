package table

import (
	"slices"
	"testing"

	"frames/bits"
)

// whole is the head of a table of each accuracy in which symbol 0 has all
// states: behind four bits, as many as the accuracy and one that are all set.
var whole = []string{5: "\xf0\x03", 6: "\xf1\x07", 7: "\xf2\x0f", 8: "\xf3\x1f", 9: "\xf4\x3f", 10: "\xf5\x7f"}

func TestAccuracies(t *testing.T) {
	for accuracy := 5; accuracy <= 10; accuracy++ {
		for top := 5; top <= 20; top++ {
			in := bits.OpenForward(whole[accuracy])
			h, fit := ReadHead(&in, top, 0)
			want := accuracy <= top && accuracy <= MaxAccuracy
			if fit != want || fit && (h.Accuracy != accuracy || !slices.Equal(h.Counts, []int{1 << accuracy})) {
				t.Errorf("P9: an accuracy of %d where %d is allowed: %v, %v", accuracy, top, h, fit)
			}
		}
	}
}

func TestHeadThatIsCut(t *testing.T) {
	for accuracy := 5; accuracy <= 9; accuracy++ {
		for n := range 2 {
			in := bits.OpenForward(whole[accuracy][:n])
			if h, fit := ReadHead(&in, 9, 52); fit || h.Accuracy != 0 || h.Counts != nil {
				t.Errorf("P9: a head that is cut: %v, %v", h, fit)
			}
		}
	}
}

func TestOneSymbolAlone(t *testing.T) {
	for accuracy := 5; accuracy <= 9; accuracy++ {
		table := Lay(Head{Accuracy: accuracy, Counts: []int{0, 0, 1 << accuracy}})
		none := bits.Stream{}
		for at := range 1 << accuracy {
			next, there := table.GoOn(at, &none)
			if table.Symbol(at) != 2 || next != at || !there {
				t.Errorf("P9: accuracy %d, state %d says %d, and goes on to %d, %v", accuracy, at, table.Symbol(at), next, there)
			}
		}
	}
}

func TestRareSymbolsAlone(t *testing.T) {
	counts := make([]int, 32)
	for i := range counts {
		counts[i] = Rare
	}
	table := Lay(Head{Accuracy: 5, Counts: counts})
	for at := range 32 {
		in, _ := bits.OpenStream("\x33") // 10011
		next, there := table.GoOn(at, &in)
		if table.Symbol(at) != 31-at || next != 19 || !there || in.Left() != 0 {
			t.Errorf("P9: state %d says %d, and goes on to %d, %v", at, table.Symbol(at), next, there)
		}
	}
}

// TestEveryStateIsComeFromOnce: the states of each symbol go on to all states,
// each to others.
func TestEveryStateIsComeFromOnce(t *testing.T) {
	counts := []int{100, Rare, 1, 0, 7, 300, Rare, 64, 38}
	table := Lay(Head{Accuracy: 9, Counts: counts})
	for symbol, count := range counts {
		reached := make([]int, 512)
		states := 0
		for at := range 512 {
			if table.Symbol(at) != symbol {
				continue
			}
			states++
			s := table.states[at]
			for z := range 1 << s.needs {
				reached[s.next+z]++
			}
		}
		if count == Rare {
			count = 1
		}
		if states != count || count > 0 && (slices.Max(reached) != 1 || slices.Min(reached) != 1) {
			t.Errorf("P9: symbol %d has %d states, which go on to %v", symbol, states, reached)
		}
	}
}
