package promises

import (
	"testing"

	"frames/api"
)

// sorts is contents of all sorts: of 0, 1, 2 and MaxSrc bytes, of all byte
// values, of one byte again and again, and of bytes drawn at random.
func sorts() []string {
	return []string{
		"", "a", "\x00", "\xff", "ab", "aa", "\x80\x81",
		cycle(256, 0, 256), cycle(512, 0, 256), cycle(1000, 0, 129),
		xs(3), xs(300), xs(api.MaxSrc),
		some(300), some(api.MaxSrc),
		long(200), long(api.MaxSrc), mixed(900, 128, 1), mixed(api.MaxSrc, 256, 2), growing(api.MaxSrc),
	}
}

// TestEachTypeAndKindAlone: every type with every kind of literals.
func TestEachTypeAndKindAlone(t *testing.T) {
	for _, src := range sorts() {
		for kind := range 3 {
			for ask := range 6 {
				for reps := range 2 {
					ch := asking()
					ch.Types, ch.Lits, ch.Reps, ch.Check = []int{kind}, []int{ask}, reps, ask&1
					encoded(t, src, ch)
					ch.Block = 200
					encoded(t, src, ch)
					ch.Single = 1
					encoded(t, src, ch)
				}
			}
		}
	}
}

// TestEachModeAlone: every mode of each of the three tables.
func TestEachModeAlone(t *testing.T) {
	for _, src := range sorts() {
		for modes := range 64 {
			ch := asking()
			ch.Modes, ch.Reps = []int{modes}, modes&1
			encoded(t, src, ch)
			ch.Block, ch.Reps = 250, 1-ch.Reps
			encoded(t, src, ch)
		}
	}
}

// TestListsThatGoRound: lists of several members.
func TestListsThatGoRound(t *testing.T) {
	for _, src := range sorts() {
		for n := 1; n <= api.MaxList; n++ {
			ch := asking()
			ch.Types, ch.Lits, ch.Modes = nil, nil, nil
			for i := range n {
				ch.Types = append(ch.Types, []int{2, 2, i % 3}[i%3])
				ch.Lits = append(ch.Lits, (2+i*i)%6)
				ch.Modes = append(ch.Modes, (42+21*i)%64)
			}
			ch.Lits = ch.Lits[:(n+1)/2]
			for _, block := range []int{64, 100, 333} {
				ch.Block, ch.Reps, ch.Single = block, n&1, n>>1&1
				encoded(t, src, ch)
			}
		}
	}
}

// TestManySmallBlocks: more bytes are written than Decode takes; what they say
// is held against the model alone.
func TestManySmallBlocks(t *testing.T) {
	for block := 1; block < 12; block++ {
		for _, src := range []string{long(1000), xs(1000), mixed(1000, 4, 9)} {
			ch := asking()
			ch.Block, ch.Lits, ch.Modes, ch.Reps = block, []int{3, 5, 4, 2, 1}, []int{42, 63, 0}, block&1
			encoded(t, src, ch)
			ch.Types = []int{2, 1, 0}
			encoded(t, src, ch)
		}
	}
	for kind := range 3 {
		ch := asking()
		ch.Block, ch.Types = 1, []int{kind}
		encoded(t, long(api.MaxSrc), ch)
	}
}
