package promises

import (
	"fmt"
	"slices"
	"strings"
	"testing"

	"frames/api"
)

// sea is a text with many copies in it.
const sea = "she sells sea shells; the shells she sells are sea shells, she is sure of it; "

// long is n bytes of text.
func long(n int) string {
	return strings.Repeat(sea, 1+n/len(sea))[:n]
}

func TestEncodeExample(t *testing.T) {
	ch := api.Choice{Block: 3, Types: []int{1}, Lits: []int{0}, Modes: []int{0}}
	want := open(0) + same(0, "a", 3) + raw(1, "aab")
	if f, _ := encoded(t, "aaaaab", ch); f != want {
		t.Errorf("P13: Encode(aaaaab) = %x, want %x", f, want)
	}
}

func TestWrittenHeads(t *testing.T) {
	for _, n := range []int{0, 1, 2, 31, 255, 256, 257, 1000, 4095, 4096} {
		for k := range 24 {
			ch := asking()
			ch.Single, ch.Size, ch.Check, ch.Types = k&1, k>>1&1, k>>2&1, []int{k >> 3}
			ch.Window = (7*n + 5*k) % 64
			encoded(t, long(n), ch)
			encoded(t, some(n), ch)
		}
	}
}

// TestSizesOfFrames: what stands behind the head is known where all is of type 0.
func TestSizesOfFrames(t *testing.T) {
	for n := range 600 {
		for k := range 8 {
			ch := asking()
			ch.Single, ch.Size, ch.Check, ch.Types = k&1, k>>1&1, k>>2&1, []int{0}
			f, _ := encoded(t, long(n), ch)
			behind := raw(1, long(n))
			if ch.Check == 1 {
				behind += check(long(n))
			}
			if !strings.HasSuffix(f, behind) {
				t.Fatalf("P12: Encode of %d bytes, %+v = %x", n, ch, f)
			}
		}
	}
}

func TestEveryWrittenWindow(t *testing.T) {
	for w := range 64 {
		for kind := range 3 {
			ch := asking()
			ch.Window, ch.Types, ch.Reps = w, []int{kind}, w&1
			encoded(t, "", ch)
			encoded(t, long(4096), ch)
			encoded(t, xs(4096), ch)
			encoded(t, some(2000)+some(2000), ch)
		}
	}
}

// TestCopiesWithinTheWindow: bytes come again at all distances about the window.
func TestCopiesWithinTheWindow(t *testing.T) {
	for w := range 10 {
		window := (8 + w%8) << (7 + w/8)
		for d := window - 3; d <= window+3; d++ {
			ch := asking()
			ch.Window, ch.Search = w, 32
			src := some(d)
			for _, block := range []int{1 << 17, 500, d} {
				ch.Block = block
				encoded(t, src+src[:min(d, 300)], ch)
			}
		}
	}
}

// TestHowManyBytesBlocksSay tells the numbers outright.
func TestHowManyBytesBlocksSay(t *testing.T) {
	for _, c := range []struct {
		size, block, window, single int
		want                        []int
	}{
		{0, 1, 0, 0, []int{0}},
		{0, 1, 0, 1, []int{0}},
		{0, 1 << 62, 63, 1, []int{0}},
		{0, greatestInt, 0, 0, []int{0}},
		{1, 1, 0, 0, []int{1}},
		{1, 2, 0, 1, []int{1}},
		{2, 1, 0, 1, []int{1, 1}},
		{3, 1, 0, 0, []int{1, 1, 1}},
		{9, 3, 0, 0, []int{3, 3, 3}},
		{10, 3, 0, 0, []int{3, 3, 3, 1}},
		{11, 3, 0, 1, []int{3, 3, 3, 2}},
		{10, 9, 0, 1, []int{9, 1}},
		{10, 10, 0, 1, []int{10}},
		{10, 11, 0, 1, []int{10}},
		{10, greatestInt, 0, 1, []int{10}},
		{1024, 5000, 0, 0, []int{1024}},
		{1025, 5000, 0, 0, []int{1024, 1}},
		{1025, 1024, 0, 0, []int{1024, 1}},
		{1025, 1025, 0, 0, []int{1024, 1}},
		{1025, 1023, 0, 0, []int{1023, 2}},
		{2048, 1 << 40, 0, 0, []int{1024, 1024}},
		{2500, greatestInt, 0, 0, []int{1024, 1024, 452}},
		{2500, greatestInt, 0, 1, []int{2500}},
		{2500, 1153, 1, 0, []int{1152, 1152, 196}},
		{2500, 1 << 20, 7, 0, []int{1920, 580}},
		{4096, 1 << 20, 8, 0, []int{2048, 2048}},
		{4096, 1 << 20, 15, 0, []int{3840, 256}},
		{4096, 1 << 20, 16, 0, []int{4096}},
		{4096, 4095, 63, 0, []int{4095, 1}},
		{4096, 4096, 63, 0, []int{4096}},
		{4096, 2048, 63, 1, []int{2048, 2048}},
		{256, 255, 0, 1, []int{255, 1}},
	} {
		for kind := range 3 {
			for _, src := range []string{long(c.size), some(c.size), xs(c.size)} {
				ch := asking()
				ch.Block, ch.Window, ch.Single, ch.Types = c.block, c.window, c.single, []int{kind}
				_, notes := encoded(t, src, ch)
				var said []int
				for _, n := range notes {
					said = append(said, len(n.said))
				}
				if !slices.Equal(said, c.want) {
					t.Errorf("P13: %d bytes, Block %d, Window %d, Single %d: blocks say %d, want %d", c.size, c.block, c.window, c.single, said, c.want)
				}
			}
		}
	}
}

func TestEverySmallCut(t *testing.T) {
	for n := range 40 {
		for block := 1; block <= 41; block++ {
			for single := range 2 {
				ch := asking()
				ch.Block, ch.Single, ch.Types, ch.Window = block, single, []int{0, 1, 2}, 0
				encoded(t, long(n), ch)
				encoded(t, xs(n), ch)
			}
		}
	}
}

// typesOf is the types of blocks, in one text.
func typesOf(notes []note) string {
	s := ""
	for _, n := range notes {
		s += fmt.Sprint(n.kind)
	}
	return s
}

// TestTypesOfBlocks tells the types outright, where the window leaves no freedom.
func TestTypesOfBlocks(t *testing.T) {
	for _, c := range []struct {
		src   string
		block int
		types []int
		want  string
	}{
		{"", 3, []int{0}, "0"},
		{"", 3, []int{1}, "0"},
		{"", 3, []int{2}, "2"},
		{"", 3, []int{2, 0, 1}, "2"},
		{"a", 3, []int{0}, "0"},
		{"a", 3, []int{1}, "1"},
		{"a", 3, []int{2}, "2"},
		{"aaa", 3, []int{1}, "1"},
		{"aab", 3, []int{1}, "0"},
		{"baa", 3, []int{1}, "0"},
		{"aba", 3, []int{1}, "0"},
		{"\x00\x00", 3, []int{1}, "1"},
		{"\xff\xff\xff\xff", 3, []int{1}, "11"},
		{"\x00\x80\x00", 3, []int{1}, "0"},
		{"aaabbbccc", 3, []int{1}, "111"},
		{"aaabbcccc", 3, []int{1}, "101"},
		{"aaabbbcccd", 3, []int{0}, "0000"},
		{"aaabbbcccd", 3, []int{0, 1}, "0101"},
		{"aaabbbcccd", 3, []int{1, 2}, "1212"},
		{"aaabbbcccd", 3, []int{0, 1, 2}, "0120"},
		{"aaabbbcccd", 3, []int{2, 1, 0, 1}, "2101"},
		{"aaabbbcccd", 3, []int{2, 2, 2, 2, 0, 0, 0}, "2222"},
		{"abcabcabcabcd", 3, []int{1, 2, 1}, "02002"},
		{strings.Repeat("a", 36), 2, []int{0, 1, 2, 2, 1, 0, 0, 0, 1, 1, 2, 2, 1, 2, 0, 2}, "012210001122120201"},
		{some(4096), 4096, []int{2}, "2"},
		{xs(4096), 4096, []int{1}, "1"},
		{xs(4095) + "y", 4096, []int{1}, "0"},
		{"y" + xs(4095), 4096, []int{1}, "0"},
	} {
		for search := range 3 {
			ch := asking()
			ch.Block, ch.Types, ch.Search = c.block, c.types, search
			if _, notes := encoded(t, c.src, ch); typesOf(notes) != c.want {
				t.Errorf("P13: %q, Block %d, Types %d: types %s, want %s", short(c.src), c.block, c.types, typesOf(notes), c.want)
			}
		}
	}
}

// TestTypesAboutMost: twice the content and 600 are as many as Most, and more.
func TestTypesAboutMost(t *testing.T) {
	for _, n := range []int{1, 100, 211, 212, 213, 214, 500, 1000, 1019, 1020, 1021, 1022, 1023, 1024} {
		for ask := range 6 {
			for _, src := range []string{long(2 * n), some(2 * n), xs(2 * n), mixed(2*n, 100, int64(n))} {
				for _, modes := range []int{0, 21, 42, 63} {
					ch := asking()
					ch.Block, ch.Window, ch.Lits, ch.Modes, ch.Reps = n, 0, []int{ask, 5 - ask}, []int{modes, 63}, n&1
					encoded(t, src, ch)
					ch.Search = 0
					encoded(t, src, ch)
				}
			}
		}
	}
}

// TestSmallWindowOfOneSegment: what is compressed is often too much for it, so
// blocks become type 0.
func TestSmallWindowOfOneSegment(t *testing.T) {
	for n := range 130 {
		for ask := range 6 {
			for _, src := range []string{long(n), some(n), xs(n), mixed(n, 3, int64(n))} {
				for _, block := range []int{1, 2, 7, max(1, n/2), max(1, n-1), n + 1} {
					ch := asking()
					ch.Block, ch.Single, ch.Lits, ch.Modes, ch.Reps = block, 1, []int{ask, 4, 5}, []int{42, 63, 21}, n&1
					encoded(t, src, ch)
				}
			}
		}
	}
}
