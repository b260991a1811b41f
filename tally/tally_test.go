package tally

import (
	"slices"
	"testing"
)

func TestTally(t *testing.T) {
	met := Tally{}
	if met.Total() != 0 || met.Different() != 0 || met.Commonest() != 0 {
		t.Errorf("nothing was met: %d, %d, %d", met.Total(), met.Different(), met.Commonest())
	}
	for _, symbol := range []int{3, 0, 5, 3, -1, 5, 2} {
		met.Add(symbol)
	}
	if want := []int{1, 0, 1, 2, 0, 2}; !slices.Equal(met.Often, want) {
		t.Errorf("met %v, want %v", met.Often, want)
	}
	if met.Total() != 6 || met.Different() != 4 || met.Commonest() != 3 {
		t.Errorf("%v: %d in all, %d different, most often %d", met.Often, met.Total(), met.Different(), met.Commonest())
	}
}
