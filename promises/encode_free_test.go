package promises

import (
	"math/rand"
	"slices"
	"strings"
	"testing"

	"frames/api"
	"frames/frames"
)

// becomesShort: m different bytes, times over, become a frame of fewer than
// m + 60 bytes.
func becomesShort(t *testing.T, part string, times int, ch api.Choice) {
	t.Helper()
	src := strings.Repeat(part, times)
	f, e := frames.NewEncoder().Encode(src, ch)
	if e != api.OK || len(f) >= len(part)+60 {
		t.Errorf("P16: %q %d times, %+v: %d bytes, %d", part, times, ch, len(f), e)
	}
	if out, e := frames.NewDecoder().Decode(f, len(src), 0); out != src || e != api.OK {
		t.Errorf("P12: %q %d times, %+v: %x says %q, %d", part, times, ch, f, short(out), e)
	}
}

// shortly is what P16 asks ahead of saying how short a frame is; all else is
// free.
func shortly(block int) api.Choice {
	return api.Choice{Block: block, Types: []int{2}, Lits: []int{0}, Modes: []int{0}, Single: 1, Search: 4}
}

// different is m different bytes.
func different(r *rand.Rand, m int) string {
	var b []byte
	for _, x := range r.Perm(256)[:m] {
		b = append(b, byte(x))
	}
	return string(b)
}

func TestAgainAndAgain(t *testing.T) {
	r := rand.New(rand.NewSource(16))
	for m := 3; m <= 42; m++ {
		for times := 3; times <= 62; times++ {
			n := m * times
			for _, part := range []string{different(r, m), cycle(m, '(', m), cycle(m, 256-m, m)} {
				ch := shortly([]int{n + 1, n + 2, 4096, 1 << 17, greatestInt}[r.Intn(5)])
				ch.Modes, ch.Window, ch.Size, ch.Check, ch.Reps = randomList(r, 63), r.Intn(64), r.Intn(2), r.Intn(2), r.Intn(2)
				if ch.Block <= n {
					ch.Block = n + 1
				}
				becomesShort(t, part, times, ch)
			}
		}
	}
}

func TestAgainAndAgainWithAllModes(t *testing.T) {
	r := rand.New(rand.NewSource(17))
	for _, m := range []int{3, 4, 5, 31, 32, 42} {
		for _, times := range []int{3, 4, 61, 62} {
			part := different(r, m)
			for modes := range 64 {
				for k := range 8 {
					ch := shortly(m*times + 1)
					ch.Modes, ch.Size, ch.Check, ch.Reps = []int{modes}, k&1, k>>1&1, k>>2
					becomesShort(t, part, times, ch)
				}
				ch := shortly(m*times + 1)
				ch.Modes, ch.Window = []int{modes, 63 - modes}, modes
				becomesShort(t, part, times, ch)
				encoded(t, strings.Repeat(part, times), ch)
			}
		}
	}
}

// call is what Encode is handed.
type call struct {
	src string
	ch  api.Choice
}

// calls is some of all sorts, good ones and ones that are refused.
func calls(r *rand.Rand, n int) []call {
	var l []call
	for i := range n {
		src := randomContent(r, 400)
		ch := randomChoice(r, len(src))
		switch i % 9 {
		case 0:
			ch.Modes = append(ch.Modes, 64)
		case 1:
			src += xs(api.MaxSrc)
		case 2:
			src = sea
		}
		l = append(l, call{src, ch})
	}
	return l
}

// TestTheSameBytes: what Encode answers hangs on nothing but what it is handed.
func TestTheSameBytes(t *testing.T) {
	r := rand.New(rand.NewSource(18))
	l := calls(r, 300)
	var frame []string
	var errno []api.Errno
	for _, c := range l {
		f, e := frames.NewEncoder().Encode(c.src, c.ch)
		frame, errno = append(frame, f), append(errno, e)
	}
	encoders := []*frames.Encoder{frames.NewEncoder(), frames.NewEncoder(), frames.NewEncoder()}
	for range 3000 {
		i := r.Intn(len(l))
		x := encoders[r.Intn(len(encoders))]
		if f, e := x.Encode(l[i].src, l[i].ch); f != frame[i] || e != errno[i] {
			t.Fatalf("P2: Encode(%q, %+v) = %x, %d, and at first %x, %d", l[i].src, l[i].ch, f, e, frame[i], errno[i])
		}
	}
	for i, c := range l {
		for range 2 {
			if f, e := encoders[0].Encode(c.src, c.ch); f != frame[i] || e != errno[i] {
				t.Fatalf("P16: Encode(%q, %+v) = %x, %d, and at first %x, %d", c.src, c.ch, f, e, frame[i], errno[i])
			}
		}
	}
}

// roomy is l with spare room behind it, in which other members stand.
func roomy(l []int, others int) []int {
	room := append(slices.Clone(l), slices.Repeat([]int{others}, 20)...)
	return room[:len(l)]
}

// TestListsAreOnlyRead: the lists of a choice stay as they are, with their spare
// room, and what stands there counts for nothing.
func TestListsAreOnlyRead(t *testing.T) {
	r := rand.New(rand.NewSource(19))
	x := frames.NewEncoder()
	for _, c := range calls(r, 400) {
		f, e := x.Encode(c.src, c.ch)
		for _, others := range []int{0, 1, -1, 99} {
			ch := c.ch
			ch.Types, ch.Lits, ch.Modes = roomy(c.ch.Types, others), roomy(c.ch.Lits, others), roomy(c.ch.Modes, others)
			again, e2 := x.Encode(c.src, ch)
			if again != f || e2 != e {
				t.Fatalf("P2: Encode(%q, %+v) hangs on what stands behind the lists", c.src, c.ch)
			}
			for k, l := range [][]int{ch.Types, ch.Lits, ch.Modes} {
				was := [][]int{c.ch.Types, c.ch.Lits, c.ch.Modes}[k]
				if !slices.Equal(l[:cap(l)][:len(was)+20], append(slices.Clone(was), slices.Repeat([]int{others}, 20)...)) {
					t.Fatalf("P2: Encode(%q, %+v) changed list %d to %d", c.src, c.ch, k, l[:len(was)+20])
				}
			}
		}
	}
}

// TestListsAreNotKept: what becomes of a list later counts for nothing.
func TestListsAreNotKept(t *testing.T) {
	x := frames.NewEncoder()
	one := asking()
	one.Block, one.Types, one.Lits, one.Modes = 20, []int{2, 2}, []int{2, 4}, []int{42, 63}
	first, _ := x.Encode(sea, one)
	was := strings.Clone(first)
	for i := range 2 {
		one.Types[i], one.Lits[i], one.Modes[i] = 0, 0, 0
	}
	two := asking()
	two.Block, two.Types, two.Lits, two.Modes = 20, []int{2, 2}, []int{2, 4}, []int{42, 63}
	second, _ := x.Encode(sea, two)
	if first != was || second != was {
		t.Errorf("P2: Encode of the same gives %x, then %x", was, second)
	}
	raws, _ := x.Encode(sea, one)
	if third, _ := frames.NewEncoder().Encode(sea, one); raws != third || raws == was {
		t.Errorf("P2: Encode by another choice gives %x, and elsewhere %x", raws, third)
	}
}

// TestEncodersInTurn: encoders, decoders and sums at work in turn.
func TestEncodersInTurn(t *testing.T) {
	ch := asking()
	ch.Check, ch.Block, ch.Lits = 1, 30, []int{2, 4}
	x, d, sum := frames.NewEncoder(), frames.NewDecoder(), frames.NewSum()
	for i := range len(sea) {
		sum.Add([]byte{sea[i]})
		f, e := x.Encode(sea[:i+1], ch)
		if out, e2 := d.Decode(f, i+1, 0); out != sea[:i+1] || e != api.OK || e2 != api.OK {
			t.Errorf("P3: %q becomes %q, %d, %d", sea[:i+1], out, e, e2)
		}
		if v, want := uint64(sum.Value()), sumOf(sea[:i+1]); v != want {
			t.Errorf("P3: a sum with encoders at work: %#x, want %#x", v, want)
		}
	}
}

// TestAnyChoice: no numbers and no lists make Encode panic.
func TestAnyChoice(t *testing.T) {
	r := rand.New(rand.NewSource(20))
	odd := []int{leastInt, -1 << 32, -1, 0, 0, 1, 1, 2, 3, 5, 16, 32, 63, 64, 1 << 17, 1 << 32, greatestInt}
	x := frames.NewEncoder()
	number := func() int { return odd[r.Intn(len(odd))] }
	oddList := func() []int {
		var l []int
		for n := r.Intn(4) * r.Intn(7); n > 0; n-- {
			l = append(l, number())
		}
		return l
	}
	for range 20000 {
		ch := api.Choice{
			Block: number(), Types: randomList(r, 2), Lits: randomList(r, 5), Modes: randomList(r, 63), Window: r.Intn(64),
			Single: r.Intn(2), Size: r.Intn(2), Check: r.Intn(2), Reps: r.Intn(2), Search: r.Intn(33),
		}
		switch r.Intn(12) {
		case 0:
			ch.Types = oddList()
		case 1:
			ch.Lits = oddList()
		case 2:
			ch.Modes = oddList()
		case 3:
			members[r.Intn(len(members))].set(&ch, number())
		}
		src := randomContent(r, 60)
		f, e := x.Encode(src, ch)
		if e != api.OK && (f != "" || e != api.ErrChoice) {
			t.Errorf("P1: Encode(%q, %+v) = %x beside the error %d", src, ch, f, e)
		}
		if e == api.OK {
			encoded(t, src, ch)
		}
	}
}
