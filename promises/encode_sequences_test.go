package promises

import (
	"fmt"
	"math/rand"
	"slices"
	"strings"
	"testing"

	"frames/api"
)

// withCopies is a choice of compressed blocks with literals of kind 0.
func withCopies(block, reps int, modes ...int) api.Choice {
	ch := asking()
	ch.Block, ch.Reps, ch.Modes, ch.Search = block, reps, modes, 32
	return ch
}

// modesOf is what Modes asks for three modes.
func modesOf(ll, of, ml int) int {
	return ll + 4*of + 16*ml
}

// TestModesOfOneCopy: bytes that come again and again are one copy, or a few.
func TestModesOfOneCopy(t *testing.T) {
	for modes := range 64 {
		for reps := range 2 {
			for _, src := range []string{strings.Repeat("abcdef", 9), xs(500), strings.Repeat("abcd", 30), some(20) + some(20)} {
				encoded(t, src, withCopies(4096, reps, modes))
				for again := range 64 {
					if again%4 == 3 || again/4%4 == 3 || again/16 == 3 {
						encoded(t, src+src, withCopies(len(src), reps, modes, again))
					}
				}
			}
		}
	}
}

// bouts is contents of blocks of 60 bytes: what comes again in them is of few
// sorts and of many, nearby and far.
func bouts() []string {
	var l []string
	far := some(60)
	for i, part := range []string{
		strings.Repeat("abcdefghij", 6),
		"abcdefgh12abcdefgh34abcdefgh56abcdefgh78abcdefgh90abcdefgh--",
		"abcde1abcde23abcde456abcde7890abcde!!abcde+abcdeabcdefabcdef",
		far,
		far[10:30] + "....." + far[20:50] + "-----",
		xs(60),
		"aaaaabbbbbaaaaabbbbbcccccaaaaabbbbbcccccdddddaaaaabbbbbccccc",
		mixed(60, 30, 7),
	} {
		if len(part) != 60 {
			panic(fmt.Sprint("bout ", i, " has ", len(part), " bytes"))
		}
		l = append(l, part)
	}
	return l
}

// TestModesOfTwoBlocks: each bout behind each other one, with all pairs of modes.
func TestModesOfTwoBlocks(t *testing.T) {
	for _, a := range bouts() {
		for _, b := range bouts() {
			for first := range 4 {
				for second := range 4 {
					encoded(t, a+b, withCopies(60, 0, modesOf(first, first, first), modesOf(second, second, second)))
					encoded(t, a+b, withCopies(60, 1, modesOf(first, second, first), modesOf(second, 3, 3)))
				}
			}
		}
	}
}

func TestEveryModeOfManyBlocks(t *testing.T) {
	r := rand.New(rand.NewSource(3))
	l := bouts()
	for modes := range 64 {
		for reps := range 2 {
			src := ""
			for range 9 {
				src += l[r.Intn(len(l))]
			}
			encoded(t, src, withCopies(60, reps, modes))
			encoded(t, src, withCopies(60, reps, modes, r.Intn(64), 63))
			encoded(t, src, withCopies(60, reps, r.Intn(64), 63, modes, r.Intn(64), 63))
			encoded(t, src, withCopies(60, reps, randomList(r, 63)...))
			encoded(t, src, withCopies(1+r.Intn(200), reps, randomList(r, 63)...))
		}
	}
}

// TestTablesWithBlocksBetween: blocks of types 0 and 1, and ones without copies,
// take no table away and make none.
func TestTablesWithBlocksBetween(t *testing.T) {
	l := bouts()
	for _, between := range []string{far60(1), xs(60), far60(2) + xs(60)} {
		for _, types := range [][]int{{2, 0, 2}, {2, 1, 2}, {2, 1, 1, 2}, {0, 2, 2}, {2, 0, 0, 2}} {
			for modes := range 64 {
				for _, part := range l {
					ch := withCopies(60, modes&1, modes, 63)
					ch.Types = types
					encoded(t, part+between+part+between+part, ch)
				}
			}
		}
	}
}

// far60 is 60 bytes that stand nowhere else.
func far60(seed int64) string {
	b := make([]byte, 60)
	rand.New(rand.NewSource(seed)).Read(b)
	return string(b)
}

// TestTablesOfBlocksThatBecomeRaw: a block is too great, so it is of type 0, and
// its tables and distances count for nothing.
func TestTablesOfBlocksThatBecomeRaw(t *testing.T) {
	for n := 8; n < 70; n++ {
		for seed := range int64(6) {
			part := mixed(n, 40, seed)
			for _, lits := range [][]int{{2, 0}, {3, 0}, {0, 2, 0}, {3, 3, 0}} {
				for _, modes := range [][]int{{0, 63}, {42, 63}, {21, 63}, {0, 0}} {
					ch := withCopies(n, int(seed)&1, modes...)
					ch.Single, ch.Lits = 1, lits
					encoded(t, part+part, ch)
					encoded(t, part+part+part, ch)
					encoded(t, part+mixed(n, 40, seed+50)+part, ch)
				}
			}
		}
	}
	// With a window of 1,024 a block of as many bytes that are hardly ever the
	// same has a copy, but does not become less.
	for seed := range int64(30) {
		r := rand.New(rand.NewSource(seed))
		b := make([]byte, 3*1024)
		r.Read(b)
		for k := range 3 {
			for range 1 + r.Intn(2) {
				from, to := 1024*k+r.Intn(400), 1024*k+500+r.Intn(500)
				copy(b[to:to+3+r.Intn(5)], b[from:])
			}
		}
		copy(b[2048:2448], b[1400:])
		for reps := range 2 {
			ch := withCopies(1024, reps, int(seed), 63, 63)
			ch.Window = 0
			encoded(t, string(b), ch)
		}
	}
}

// TestAllLengths: copies of all lengths behind all numbers of literals.
func TestAllLengths(t *testing.T) {
	src := some(4096)
	for _, n := range []int{3, 4, 5, 6, 7, 8, 10, 16, 33, 34, 35, 36, 37, 40, 66, 67, 82, 83, 98, 99, 130, 131, 258, 259, 514, 515, 1026, 1027, 1500} {
		for _, lits := range []int{0, 1, 2, 15, 16, 17, 18, 23, 24, 31, 32, 47, 48, 63, 64, 127, 128, 255, 256, 511, 512, 1023, 1024} {
			part := src[:n] + src[2000:2000+lits] + src[:n] + src[:n/2]
			part = part[:min(len(part), api.MaxSrc)]
			ch := withCopies(4096, lits&1, (7*n+lits)%64)
			encoded(t, part, ch)
			ch.Block = n + lits
			encoded(t, part, ch)
		}
	}
	for n := range 600 {
		encoded(t, xs(n), withCopies(4096, n&1, n%64))
		encoded(t, src[:9]+strings.Repeat(src[:9], n/9), withCopies(4096, n&1, n%64))
	}
}

// TestManySequences: more than 127, and as many as can be.
func TestManySequences(t *testing.T) {
	r := rand.New(rand.NewSource(5))
	for i := range 60 {
		words := make([]string, 4+r.Intn(40))
		for j := range words {
			words[j] = some(400)[j*9 : j*9+4+r.Intn(4)]
		}
		var b strings.Builder
		for b.Len() < 4000 {
			b.WriteString(words[r.Intn(len(words))])
			if r.Intn(3) == 0 {
				b.WriteString(string(rune('0' + r.Intn(10))))
			}
		}
		src := b.String()[:4000]
		ch := withCopies(4096, i&1, r.Intn(64))
		ch.Search = 1 + r.Intn(32)
		encoded(t, src, ch)
		ch.Modes = []int{42}
		encoded(t, src, ch)
		ch.Block, ch.Modes, ch.Lits = 1000, []int{42, 63}, []int{3, 5}
		encoded(t, src, ch)
	}
}

// withBacks is a content whose copies go back so far, each behind so many
// literals, which stand nowhere else; and the distances that it is made of.
func withBacks(r *rand.Rand, n int) string {
	b := []byte(some(60 + r.Intn(60)))
	last := []int{1, 4, 8}
	for len(b) < n {
		ll := r.Intn(3)
		for range ll {
			b = append(b, byte(r.Intn(256)))
		}
		back := 5 + r.Intn(len(b)-5)
		if k := r.Intn(5); k < 3 {
			back = last[k]
		} else if k == 3 {
			back = last[0] - 1
		}
		if back < 1 {
			continue
		}
		for range 6 + r.Intn(6) {
			b = append(b, b[len(b)-back])
		}
		if back != last[0] {
			last = []int{back, last[0], last[1]}
		}
	}
	return string(b)
}

// TestDistancesAreTold: many that are among the last three, with and without
// literals ahead of them, over one block and many.
func TestDistancesAreTold(t *testing.T) {
	r := rand.New(rand.NewSource(6))
	for i := range 600 {
		src := withBacks(r, 200+r.Intn(500))
		for reps := range 2 {
			ch := withCopies(4096, reps, r.Intn(64))
			ch.Search = 1 + r.Intn(32)
			encoded(t, src, ch)
			ch.Block = 10 + r.Intn(100)
			encoded(t, src, ch)
			ch.Types = []int{2, 2, i % 3}
			encoded(t, src, ch)
			ch.Single = 1
			encoded(t, src, ch)
		}
	}
}

// TestCopiesOverBlocks: a copy that goes on in the next block has the same
// distance and no literals ahead of it; that is none of the last three there.
func TestCopiesOverBlocks(t *testing.T) {
	for m := 1; m < 40; m++ {
		src := strings.Repeat(some(m), 1+200/m)
		for _, block := range []int{m, m + 1, 20, 50, 64} {
			for reps := range 2 {
				encoded(t, src, withCopies(block, reps, m))
				encoded(t, "abcd"+src, withCopies(block, reps, 63))
			}
		}
	}
}

// TestNoCopies: with Search 0 all bytes are literals, whatever they are.
func TestNoCopies(t *testing.T) {
	for _, src := range append(bouts(), long(4096), xs(4096), strings.Repeat("abc", 1000)) {
		for ask := range 6 {
			for _, block := range []int{4096, 100} {
				ch := withCopies(block, 1, 42, 21, 63)
				ch.Search, ch.Lits = 0, []int{ask}
				_, notes := encoded(t, src, ch)
				if slices.ContainsFunc(notes, func(n note) bool { return len(n.seqs) > 0 || n.lits != n.said }) {
					t.Errorf("P16: copies of %q with Search 0", short(src))
				}
			}
		}
	}
}
