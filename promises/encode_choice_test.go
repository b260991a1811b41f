package promises

import (
	"fmt"
	"slices"
	"strings"
	"testing"

	"frames/api"
	"frames/frames"
)

// asking is a choice that is one: compressed blocks as great as can be, and
// nothing else.
func asking() api.Choice {
	return api.Choice{Block: 1 << 17, Types: []int{2}, Lits: []int{0}, Modes: []int{0}, Window: 63, Search: 8}
}

const (
	leastInt    = -1 << 63
	greatestInt = 1<<63 - 1
)

// member is a member of a choice that is a number: the greatest that is allowed
// (from 0 on), and how it is set.
type member struct {
	name string
	top  int
	set  func(ch *api.Choice, x int)
}

var members = []member{
	{"Window", 63, func(ch *api.Choice, x int) { ch.Window = x }},
	{"Search", 32, func(ch *api.Choice, x int) { ch.Search = x }},
	{"Single", 1, func(ch *api.Choice, x int) { ch.Single = x }},
	{"Size", 1, func(ch *api.Choice, x int) { ch.Size = x }},
	{"Check", 1, func(ch *api.Choice, x int) { ch.Check = x }},
	{"Reps", 1, func(ch *api.Choice, x int) { ch.Reps = x }},
}

// list is a list of a choice: the greatest member that is allowed (from 0 on),
// and how it is set.
type list struct {
	name string
	top  int
	set  func(ch *api.Choice, l []int)
}

var lists = []list{
	{"Types", 2, func(ch *api.Choice, l []int) { ch.Types = l }},
	{"Lits", 5, func(ch *api.Choice, l []int) { ch.Lits = l }},
	{"Modes", 63, func(ch *api.Choice, l []int) { ch.Modes = l }},
}

// outside is numbers that are not 0 to top; some would be, if high bits fell out.
func outside(top int) []int {
	return []int{-1, top + 1, top + 2, -2, -256, 256, 257, -1 << 32, 1 << 32, 1<<32 + 1, leastInt, leastInt + 1, greatestInt}
}

// refused: Encode answers ErrChoice, but ErrSrc where there is too much.
func refused(t *testing.T, name string, ch api.Choice) {
	t.Helper()
	x := frames.NewEncoder()
	for _, src := range []string{"", "a", "abcabcabc", xs(api.MaxSrc)} {
		if f, e := x.Encode(src, ch); f != "" || e != api.ErrChoice {
			t.Errorf("P12: %s: Encode(%q) = %x, %d, want ErrChoice", name, short(src), f, e)
		}
	}
	for _, n := range []int{api.MaxSrc + 1, 3 * api.MaxSrc, 1 << 16} {
		if f, e := x.Encode(xs(n), ch); f != "" || e != api.ErrSrc {
			t.Errorf("P12: %s: Encode of %d bytes = %x, %d, want ErrSrc", name, n, f, e)
		}
	}
}

// taken: Encode answers a frame, but ErrSrc where there is too much.
func taken(t *testing.T, ch api.Choice) {
	t.Helper()
	encoded(t, "", ch)
	encoded(t, "abcabcabcabcabdddddddddd", ch)
	if f, e := frames.NewEncoder().Encode(xs(api.MaxSrc+1), ch); f != "" || e != api.ErrSrc {
		t.Errorf("P12: %+v: Encode of %d bytes = %x, %d, want ErrSrc", ch, api.MaxSrc+1, f, e)
	}
}

func TestNumbersOfAChoice(t *testing.T) {
	for _, m := range members {
		for x := 0; x <= m.top; x++ {
			ch := asking()
			m.set(&ch, x)
			taken(t, ch)
		}
		for _, x := range outside(m.top) {
			ch := asking()
			m.set(&ch, x)
			refused(t, fmt.Sprintf("%s %d", m.name, x), ch)
		}
	}
}

func TestBlockOfAChoice(t *testing.T) {
	for _, x := range []int{1, 2, 3, 1023, 1024, 1 << 17, 1<<17 + 1, 1 << 31, 1 << 32, 1<<32 + 1, 1 << 62, greatestInt - 1, greatestInt} {
		ch := asking()
		ch.Block = x
		taken(t, ch)
		ch.Single = 1
		taken(t, ch)
	}
	for _, x := range []int{0, -1, -2, -1 << 31, -1 << 32, -1<<32 + 1, leastInt, leastInt + 1} {
		ch := asking()
		ch.Block = x
		refused(t, fmt.Sprintf("Block %d", x), ch)
	}
}

func TestListsOfAChoice(t *testing.T) {
	for _, l := range lists {
		for _, n := range []int{1, 2, 3, api.MaxList - 1, api.MaxList} {
			ch := asking()
			ch.Block = 1
			l.set(&ch, slices.Repeat([]int{l.top}, n))
			taken(t, ch)
			l.set(&ch, make([]int, n, 40))
			taken(t, ch)
		}
		for _, bad := range [][]int{nil, {}, make([]int, 0, 9), make([]int, api.MaxList+1), make([]int, api.MaxList+2), make([]int, 256+1), make([]int, 1<<16+1)} {
			ch := asking()
			l.set(&ch, bad)
			refused(t, fmt.Sprintf("%s of %d members", l.name, len(bad)), ch)
		}
	}
}

func TestMembersOfLists(t *testing.T) {
	for _, l := range lists {
		for x := range l.top + 1 {
			ch := asking()
			l.set(&ch, []int{x})
			taken(t, ch)
			ch.Block = 5
			l.set(&ch, []int{0, x, l.top - x})
			taken(t, ch)
		}
		for _, x := range outside(l.top) {
			for _, n := range []int{1, 2, api.MaxList} {
				for _, at := range []int{0, n / 2, n - 1} {
					ch := asking()
					bad := make([]int, n)
					bad[at] = x
					l.set(&ch, bad)
					refused(t, fmt.Sprintf("%s %d", l.name, bad), ch)
				}
			}
		}
	}
}

func TestSeveralFaultsOfAChoice(t *testing.T) {
	refused(t, "nothing is asked", api.Choice{})
	refused(t, "all is wrong", api.Choice{Block: -1, Types: []int{3}, Lits: []int{6}, Modes: []int{64}, Window: 64, Single: 2, Size: 2, Check: 2, Reps: 2, Search: 33})
	ch := asking()
	ch.Types, ch.Search = []int{-1}, -1
	refused(t, "two are wrong", ch)
}

func TestGreatestSrc(t *testing.T) {
	for _, src := range []string{xs(api.MaxSrc), some(api.MaxSrc), xs(api.MaxSrc - 1), strings.Repeat(some(64), 64)} {
		for _, kind := range []int{0, 1, 2} {
			ch := asking()
			ch.Types = []int{kind}
			encoded(t, src, ch)
		}
	}
	for _, src := range []string{xs(api.MaxSrc + 1), some(api.MaxSrc + 1), some(1 << 17)} {
		if f, e := frames.NewEncoder().Encode(src, asking()); f != "" || e != api.ErrSrc {
			t.Errorf("P12: Encode of %d bytes = %x, %d, want ErrSrc", len(src), short(f), e)
		}
	}
}
