package promises

import (
	"fmt"
	"strings"
	"testing"

	"frames/api"
)

// onlyLiterals is a choice of compressed blocks without copies.
func onlyLiterals(block int, lits ...int) api.Choice {
	ch := asking()
	ch.Block, ch.Lits, ch.Search = block, lits, 0
	return ch
}

// kindsOf is the kinds of the literals of blocks, in one text: one that is told
// in four streams has a mark behind it, and a block of another type is a dot.
func kindsOf(notes []note) string {
	s := ""
	for _, n := range notes {
		if n.kind != 2 {
			s += "."
			continue
		}
		s += fmt.Sprint(n.lkind)
		if n.lkind > 1 && n.form > 0 {
			s += "'"
		}
	}
	return s
}

// cycle is n bytes from first on, that come again and again.
func cycle(n, first, different int) string {
	b := make([]byte, n)
	for i := range b {
		b[i] = byte(first + i*7%different)
	}
	return string(b)
}

// growing is n bytes, each of which comes about half as often again as the next.
func growing(n int) string {
	var b []byte
	a, c := 1, 1
	for symbol := 'a'; len(b) < n; symbol++ {
		for range a {
			b = append(b, byte(symbol))
		}
		a, c = c, a+c
	}
	return string(b[:n])
}

// TestKindsOfLiterals tells the kinds outright, where there is no freedom.
func TestKindsOfLiterals(t *testing.T) {
	for _, c := range []struct {
		name, src string
		want      [6]string // by what Lits asks
	}{
		{"none", "", [6]string{"0", "0", "0", "0", "0", "0"}},
		{"one", "a", [6]string{"0", "1", "0", "0", "0", "0"}},
		{"two that are the same", "aa", [6]string{"0", "1", "0", "0", "0", "0"}},
		{"two", "ab", [6]string{"0", "0", "2", "0", "0", "0"}},
		{"the least two", "\x00\x01", [6]string{"0", "0", "2", "0", "0", "0"}},
		{"the greatest two", "\x7f\x80", [6]string{"0", "0", "2", "0", "0", "0"}},
		{"the least and the greatest", "\x80\x00", [6]string{"0", "0", "2", "0", "0", "0"}},
		{"five that are the same", "aaaaa", [6]string{"0", "1", "0", "0", "0", "0"}},
		{"five", "abcde", [6]string{"0", "0", "2", "0", "0", "0"}},
		{"six", "abcdef", [6]string{"0", "0", "2", "2'", "0", "0"}},
		{"six that are two", "aaaaab", [6]string{"0", "0", "2", "2'", "0", "0"}},
		{"six that are the same", "aaaaaa", [6]string{"0", "1", "0", "0", "0", "0"}},
		{"seven", "abcdefg", [6]string{"0", "0", "2", "2'", "0", "0"}},
		{"eight", "abcdefgh", [6]string{"0", "0", "2", "2'", "0", "0"}},
		{"nine", "abcdefghi", [6]string{"0", "0", "2", "2'", "0", "0"}},
		{"ten", "abcdefghij", [6]string{"0", "0", "2", "2'", "0", "0"}},
		{"one other at the end", xs(40) + "y", [6]string{"0", "0", "2", "2'", "0", "0"}},
		{"text", sea, [6]string{"0", "0", "2", "2'", "0", "0"}},
		{"all that are not above 128", cycle(129, 0, 129), [6]string{"0", "0", "2", "2'", "0", "0"}},
		{"all of these twice", cycle(258, 0, 129), [6]string{"0", "0", "2", "2'", "0", "0"}},
		{"642 of text", long(642), [6]string{"0", "0", "2", "2'", "0", "0"}},
		{"642 of all", cycle(642, 0, 129), [6]string{"0", "0", "2", "2'", "0", "0"}},
		{"642 of codes of all lengths", growing(642), [6]string{"0", "0", "2", "2'", "0", "0"}},
		{"one above 128", "ab\x81", [6]string{"0", "0", "", "0", "0", "0"}},
		{"six, one of them above 128", "abcde\xff", [6]string{"0", "0", "", "", "0", "0"}},
		{"six that are the same, above 128", "\xf0\xf0\xf0\xf0\xf0\xf0", [6]string{"0", "1", "0", "0", "0", "0"}},
		{"all values", cycle(256, 0, 256), [6]string{"0", "0", "", "", "0", "0"}},
		{"643", long(643), [6]string{"0", "0", "", "2'", "0", "0"}},
		{"1023", long(1023), [6]string{"0", "0", "", "2'", "0", "0"}},
		{"1024", long(1024), [6]string{"0", "0", "0", "2'", "0", "0"}},
		{"1025", long(1025), [6]string{"0", "0", "0", "2'", "0", "0"}},
		{"4096", long(4096), [6]string{"0", "0", "0", "2'", "0", "0"}},
		{"4096 of all", cycle(4096, 0, 129), [6]string{"0", "0", "0", "2'", "0", "0"}},
		{"4096 of codes of all lengths", growing(4096), [6]string{"0", "0", "0", "2'", "0", "0"}},
		{"4096 that are the same", xs(4096), [6]string{"0", "1", "0", "0", "0", "0"}},
		{"4095 that are the same", xs(4095), [6]string{"0", "1", "0", "0", "0", "0"}},
		{"31 that are the same", xs(31), [6]string{"0", "1", "0", "0", "0", "0"}},
		{"32 that are the same", xs(32), [6]string{"0", "1", "0", "0", "0", "0"}},
	} {
		for ask, want := range c.want {
			_, notes := encoded(t, c.src, onlyLiterals(4096, ask))
			if got := kindsOf(notes); want != "" && got != want {
				t.Errorf("P14: %s, Lits %d: kind %s, want %s", c.name, ask, got, want)
			}
			if len(notes) != 1 || notes[0].lits != c.src {
				t.Errorf("P16: %s, Lits %d: not all bytes are literals, with Search 0", c.name, ask)
			}
		}
	}
}

// TestEveryNumberOfLiterals: streams of all sizes.
func TestEveryNumberOfLiterals(t *testing.T) {
	for n := range 300 {
		for ask := range 6 {
			for _, src := range []string{cycle(n, 'a', 26), growing(n), cycle(n, 3, 2), cycle(n, 100, 29)} {
				encoded(t, src+src, onlyLiterals(max(1, n), 2, ask))
			}
		}
	}
	for n := 300; n < 2048; n += 61 {
		for ask := range 6 {
			encoded(t, growing(n)+growing(n), onlyLiterals(n, 3, ask))
			encoded(t, cycle(2*n, 0, 129), onlyLiterals(n, 3, ask))
		}
	}
}

// TestTwoLiterals: trees of two symbols, which tell of all that are not there.
func TestTwoLiterals(t *testing.T) {
	for a := range 256 {
		for _, b := range []int{0, 1, 2, a - 1, a + 1, 127, 128, 129, 254, 255} {
			if b < 0 || b > 255 {
				continue
			}
			src := string([]byte{byte(a), byte(b), byte(a), byte(a), byte(a), byte(b), byte(b)})
			encoded(t, src+src, onlyLiterals(7, 2, 5))
			encoded(t, src+src, onlyLiterals(7, 3, 4))
		}
	}
}

// TestOftenAndSeldom: some literals come far more often than others.
func TestOftenAndSeldom(t *testing.T) {
	for _, k := range []int{1, 2, 3, 15, 60, 128} {
		for _, n := range []int{1, 2, 10, 400, 3000} {
			src := cycle(k, 0, max(1, k)) + strings.Repeat("\x80", n)
			for ask := range 6 {
				encoded(t, src+src[:len(src)/4], onlyLiterals(len(src), ask, 5))
				encoded(t, src+src[:len(src)/4], onlyLiterals(len(src), 3, ask))
			}
		}
	}
}

// TestTreesUsedAgain tells the kinds of blocks of eight literals.
func TestTreesUsedAgain(t *testing.T) {
	const (
		abcd = "aabbccdd" // eight literals
		dcba = "dddddcba"
		aaaa = "aaaaaaaa"
		abxy = "abxyabxy"
		xxxx = "xxxxxxxx"
		wxyz = "wxyzwxyz"
		high = "\xfa\xfb\xfc\xfd\xfa\xfb\xfc\xfd"
	)
	for _, c := range []struct {
		name  string
		src   string
		lits  []int
		types []int
		want  string
	}{
		{"one stream", abcd + dcba, []int{2, 4}, nil, "23"},
		{"four streams", abcd + dcba, []int{3, 5}, nil, "2'3'"},
		{"four of one", abcd + dcba, []int{2, 5}, nil, "23'"},
		{"one of four", abcd + dcba, []int{3, 4}, nil, "2'3"},
		{"again and again", abcd + dcba + aaaa + abcd, []int{2, 4, 5, 4}, nil, "233'3"},
		{"of one literal alone", abcd + aaaa, []int{2, 5}, nil, "23'"},
		{"no tree yet", abcd + abcd, []int{4, 5}, nil, "00"},
		{"no tree yet, then one", abcd + abcd + abcd, []int{5, 2, 4}, nil, "023"},
		{"a literal that the tree has not", abcd + abxy, []int{2, 4}, nil, "20"},
		{"only such ones", abcd + xxxx, []int{3, 5}, nil, "2'0"},
		{"one between those of the tree", "aaccaacc" + "aaccabcc", []int{2, 4}, nil, "20"},
		{"one behind those of the tree", "aaccaacc" + "aaccaacd", []int{2, 5}, nil, "20"},
		{"one ahead of those of the tree", "bbccbbcc" + "bbccbbca", []int{2, 5}, nil, "20"},
		{"and the tree once more", abcd + abxy + abcd, []int{2, 4, 4}, nil, "203"},
		{"the newer tree counts", abcd + wxyz + wxyz + abcd, []int{2, 2, 4, 4}, nil, "2230"},
		{"no literal of the older one", abcd + abxy + abcd, []int{2, 2, 4}, nil, "220"},
		{"kind 3 makes no tree", abcd + aaaa + abcd, []int{2, 4, 4}, nil, "233"},
		{"kind 0 takes no tree away", abcd + wxyz + abcd, []int{2, 0, 4}, nil, "203"},
		{"kind 1 takes no tree away", abcd + xxxx + abcd, []int{2, 1, 4}, nil, "213"},
		{"kind 0 where 1 was asked", abcd + wxyz + abcd, []int{2, 1, 4}, nil, "203"},
		{"kind 0 where 2 was asked makes no tree", abcd + xxxx + abcd + xxxx, []int{2, 2, 4, 4}, nil, "2030"},
		{"a block of type 0 between", abcd + wxyz + abcd, []int{2, 2, 4}, []int{2, 0, 2}, "2.3"},
		{"a block of type 1 between", abcd + xxxx + abcd, []int{2, 2, 4}, []int{2, 1, 2}, "2.3"},
		{"a block of type 0 makes no tree", abcd + abcd + abcd, []int{2, 4, 4}, []int{0, 2, 2}, ".00"},
		{"a block of type 0 makes no newer tree", abcd + wxyz + wxyz + abcd, []int{2, 2, 4, 4}, []int{2, 0, 2, 2}, "2.03"},
		{"no literals of four streams", abcd + "abcda", []int{3, 5}, nil, "2'0"},
		{"few literals in one stream", abcd + "b", []int{3, 4}, nil, "2'3"},
		{"six literals", abcd + "bcdabc", []int{3, 5}, nil, "2'3'"},
		{"lists go round", abcd + abcd + abcd + abcd + abcd, []int{2, 4}, nil, "23232"},
		{"lists of their own lengths go round", abcd + abcd + abcd + abcd + abcd, []int{4, 5, 2}, []int{2, 0}, "0.2.3'"},
		{"literals above 128 behind", abcd + high, []int{2, 4}, nil, "20"},
	} {
		ch := onlyLiterals(8, c.lits...)
		if c.types != nil {
			ch.Types = c.types
		}
		_, notes := encoded(t, c.src, ch)
		if got := kindsOf(notes); got != c.want {
			t.Errorf("P14: %s: kinds %s, want %s", c.name, got, c.want)
		}
	}
}

// TestTreesOfOtherCalls: a tree of another frame counts for nothing.
func TestTreesOfOtherCalls(t *testing.T) {
	encoded(t, sea, onlyLiterals(4096, 2))
	if _, notes := encoded(t, sea, onlyLiterals(4096, 4)); kindsOf(notes) != "0" {
		t.Errorf("P14: a first block has kind %s", kindsOf(notes))
	}
}

// TestManyLiteralsAgain: the numbers of literals up to which one stream of the
// last tree must do.
func TestManyLiteralsAgain(t *testing.T) {
	for _, n := range []int{129, 640, 641, 642, 643, 644, 742, 743, 744, 745, 1000, 1022, 1023, 1024, 1025, 2000} {
		for _, src := range []string{long(n), growing(n), cycle(n, 0, 129), strings.Repeat("\x80", n)} {
			for ask := 2; ask < 6; ask++ {
				_, notes := encoded(t, cycle(n, 0, 129)+src, onlyLiterals(n, 3, ask))
				got := kindsOf(notes)
				if ask == 4 && n <= 743 && got != "2'3" || ask == 4 && n > 1023 && got != "2'0" || ask == 5 && got != "2'3'" {
					t.Errorf("P14: %d literals of the last tree, Lits %d: kinds %s", n, ask, got)
				}
			}
		}
	}
}

// TestLongCodesAgain: many literals that the last tree was hardly written for,
// so that they have long codes.
func TestLongCodesAgain(t *testing.T) {
	for _, n := range []int{500, 700, 742, 743, 744, 745, 800, 1000, 1022, 1023, 1024, 2000, 2048} {
		first := growing(n)
		for _, src := range []string{strings.Repeat(first[:1], n), strings.Repeat(first[:3], n)[:n], first[:40] + strings.Repeat(first[:4], n)[:n-40]} {
			for ask := 2; ask < 6; ask++ {
				_, notes := encoded(t, first+src, onlyLiterals(n, 3, ask))
				got := kindsOf(notes)
				if ask == 4 && n <= 743 && got != "2'3" || ask == 5 && got != "2'3'" {
					t.Errorf("P14: %d literals of long codes, Lits %d: kinds %s", n, ask, got)
				}
			}
		}
	}
}

// TestTreesOfBlocksThatBecomeRaw: a block is too great with its tree, so it is
// of type 0, and its tree counts for nothing.
func TestTreesOfBlocksThatBecomeRaw(t *testing.T) {
	for n := 2; n < 60; n++ {
		for _, part := range []string{cycle(n, 'a', 4), cycle(n, 0, 2), cycle(n, 0, n), cycle(n, 129-min(n, 129), min(n, 129)), growing(n)} {
			for _, lits := range [][]int{{2, 4}, {3, 5}, {2, 5, 4}, {3, 4, 4}, {4, 2, 4}, {0, 3, 5}} {
				for blocks := 2; blocks < 9; blocks++ {
					ch := onlyLiterals(n, lits...)
					ch.Single = 1
					encoded(t, strings.Repeat(part, blocks), ch)
				}
			}
		}
	}
}
