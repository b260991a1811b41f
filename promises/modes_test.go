package promises

import (
	"slices"
	"strings"
	"testing"

	"frames/api"
)

// base is a text of 64 different bytes, none of which the literals hold.
func base() string {
	b := make([]byte, 64)
	for i := range b {
		b[i] = byte(0x80 + i)
	}
	return string(b)
}

// letters is a text of n bytes of which no three neighbours come soon again.
func letters(n int) string {
	b := make([]byte, n)
	for i := range b {
		b[i] = "abcdefghijklmnopqrstuvwxyz"[(i*i/7+i)%26]
	}
	return string(b)
}

// carried is what comes out of sequences whose distances are told outright,
// behind what was there.
func carried(s, lits string, qs ...seq) string {
	for _, q := range qs {
		s = copied(s+lits[:q.ll], q.of-3, q.ml)
		lits = lits[q.ll:]
	}
	return s + lits
}

// modeTabs are tables of LL, OF and ML by the modes 0, 1 and 2. All of them say
// LL 2, OF 5 (32 to 63) and ML 4, those of the modes 0 and 2 more than that.
func modeTabs() [3][3]tab {
	return [3][3]tab{
		{usual(api.LL), only(2), written(6, 3, 0, 40, rare, 20)},
		{usual(api.OF), only(5), written(5, 0, 0, 0, 9, 10, 12, rare)},
		{usual(api.ML), only(4), written(7, rare, 0, 0, 0, 100, 20, 7)},
	}
}

// modeSeqs are sequences that the tables can say.
func modeSeqs(b tabs) []seq {
	qs := []seq{{2, 40, 7}, {2, 33, 7}, {2, 63, 7}, {2, 48, 7}}
	for i := range qs {
		if len(b[api.LL].places) > 1 {
			qs[i].ll = []int{4, 2, 0, 2}[i]
		}
		if len(b[api.OF].places) > 1 {
			qs[i].of = []int{20, 50, 9, 40}[i]
		}
		if len(b[api.ML].places) > 1 {
			qs[i].ml = []int{7, 8, 9, 3}[i]
		}
	}
	return qs
}

// TestEachModeOfEachTable: each of the modes 0 to 2 of each table in a block,
// and each of 0 to 3 in the next one.
func TestEachModeOfEachTable(t *testing.T) {
	all := modeTabs()
	lits := letters(20)
	var rows []row
	for i := range 27 {
		first := tabs{all[0][i%3], all[1][i/3%3], all[2][i/9]}
		begin := wide + raw(0, base())
		content := carried(base(), lits, modeSeqs(first)...)
		rows = append(rows, row{"the first block", begin + sequenced(1, text(lits), first, modeSeqs(first)...), 999, content, api.OK})
		begin += sequenced(0, text(lits), first, modeSeqs(first)...)
		for k := range 64 {
			var second tabs
			for kind, mode := range []int{k % 4, k / 4 % 4, k / 16} {
				if mode == 3 {
					second[kind] = first[kind].again()
				} else {
					second[kind] = all[kind][mode]
				}
			}
			qs := modeSeqs(second)
			rows = append(rows, row{"the second block", begin + sequenced(1, text(lits), second, qs...), 999, carried(content, lits, qs...), api.OK})
		}
	}
	hold(t, "P10", rows)
}

// TestLastTableAgain: mode 3 is the table of the last block that had one, over
// all sorts of blocks, again and again.
func TestLastTableAgain(t *testing.T) {
	all := modeTabs()
	lits := letters(20)
	between := []string{
		"", raw(0, ""), raw(0, "mno"), same(0, "m", 3), whole(0, text("mno")+"\x00"), whole(0, many(5)+"\x80\x00"), planted,
	}
	says := []string{"", "", "mno", "mmm", "mno", "xxxxx", ""}
	var rows []row
	for i := range 27 {
		first := tabs{all[0][i%3], all[1][i/3%3], all[2][i/9]}
		for k := range 27 {
			other := tabs{all[0][k%3], all[1][k/3%3], all[2][k/9]}
			s := wide + raw(0, base()) + sequenced(0, text(lits), other, modeSeqs(other)...) + sequenced(0, text(lits), first, modeSeqs(first)...)
			content := carried(carried(base(), lits, modeSeqs(other)...), lits, modeSeqs(first)...)
			for range 2 {
				n := (i + k) % len(between)
				s += between[n] + sequenced(0, text(lits), first.again(), modeSeqs(first)...)
				content = carried(content+says[n], lits, modeSeqs(first)...)
			}
			rows = append(rows, row{"again and again", s + raw(1, ""), 9999, content, api.OK})
		}
	}
	hold(t, "P10", rows)
}

// TestNoLastTable: mode 3 where this frame has had no table of the kind.
func TestNoLastTable(t *testing.T) {
	q := seq{2, 40, 7}
	good := wide + raw(0, base()) + sequenced(1, text("ab"), onlyOf(q), q)
	begins := []string{
		wide,
		wide + raw(0, base()),
		wide + whole(0, text("ab")+"\x00") + planted,
		good + wide + raw(0, base()),
		good + passed(3, "ab") + wide,
		good + good + wide,
	}
	var rows []row
	for _, begin := range begins {
		for k := 1; k < 8; k++ {
			for _, b := range []tabs{allUsual(), onlyOf(q), {all(0, 2), all(1, 2), all(2, 2)}} {
				for kind := range b {
					if k>>kind&1 == 1 {
						b[kind] = b[kind].again()
					}
				}
				rows = append(rows, row{"none so far", begin + sequenced(1, text("ab"), b, q), 9999, "", api.ErrTable})
			}
		}
	}
	hold(t, "P10", rows)
}

// all is the table of a kind by a mode.
func all(kind, mode int) tab {
	return modeTabs()[kind][mode]
}

// TestCodesOfModeOne: each code as that of a table of one state.
func TestCodesOfModeOne(t *testing.T) {
	var rows []row
	for kind := range 3 {
		for code := range 256 {
			b := onlyOf(seq{1, 4, 3})
			b[kind] = only(code)
			r := row{"a code that is none", wide + streamed(1, many(20), b, 1, "\x01"), api.MaxOut, "", api.ErrTable}
			if code > topCode[kind] {
				rows = append(rows, r)
			} else if code == topCode[kind] {
				r.name, r.e = "the greatest code, and no bits", api.ErrStream
				rows = append(rows, r)
			}
		}
	}
	lits := 65536
	rows = append(rows, []row{
		{"the greatest code of LL", wide + alone(1, many(lits), seq{lits, 4, 3}), api.MaxOut, xs(lits + 3), api.OK},
		{"the greatest code of OF", wide + alone(1, text("a"), seq{1, 1 << 31, 3}), api.MaxOut, "", api.ErrOffset},
		{"the greatest code of ML", wide + alone(1, text("x"), seq{1, 4, 65539}), api.MaxOut, xs(65540), api.OK},
	}...)
	hold(t, "P10", rows)
}

// TestCodeThatIsNotThere: of mode 1, for each table, with nothing behind it.
func TestCodeThatIsNotThere(t *testing.T) {
	ask := func(modes, tail string) row {
		return row{"a code that is not there", wide + whole(1, text("ab")+"\x01"+modes+tail), 99, "", api.ErrTable}
	}
	good := seq{2, 4, 3}
	b := onlyOf(good)
	hold(t, "P10", []row{
		ask("\x40", ""), ask("\x10", ""), ask("\x04", ""),
		ask("\x54", ""), ask("\x54", "\x02"), ask("\x54", "\x02\x02"),
		ask("\x50", "\x02"), ask("\x44", "\x02"), ask("\x14", "\x02"),
		{"no stream behind the codes", wide + whole(1, text("ab")+"\x01"+b.modes()), 99, "", api.ErrStream},
		{"just so", wide + alone(1, text("ab"), good), 99, "abbbb", api.OK},
	})
}

// TestAccuraciesOfSequences: each accuracy of each table.
func TestAccuraciesOfSequences(t *testing.T) {
	q, p := seq{2, 40, 7}, seq{2, 70, 7}
	var rows []row
	for kind := range 3 {
		for accuracy := 5; accuracy <= 20; accuracy++ {
			b := onlyOf(q)
			code := codeOf(kind, q.value(kind))
			half := 1 << (accuracy - 1)
			head := headOf(accuracy, append(make([]int, code), half, half))
			b[kind] = tab{2, forward(head), nil}
			if accuracy > topAccuracy[kind] {
				s := wide + raw(0, base()) + streamed(1, text("abcd"), b, 1, backward(strings.Repeat("01", 60)))
				rows = append(rows, row{"an accuracy that is too great", s, 999, "", api.ErrTable})
				continue
			}
			b[kind].places = statesOf(accuracy, append(make([]int, code), half, half))
			qs := []seq{q, q, q}
			switch kind {
			case api.LL:
				qs[1].ll = 3
			case api.OF:
				qs[1].of = p.of
			case api.ML:
				qs[1].ml = 8
			}
			lits := letters(9)
			content := carried(base(), lits, qs...)
			rows = append(rows, row{"an accuracy", wide + raw(0, base()) + sequenced(1, text(lits), b, qs...), 999, content, api.OK})
		}
	}
	hold(t, "P10", rows)
}

// TestGreatestCodesOfHeads: a head that tells of the greatest code, and of one
// more.
func TestGreatestCodesOfHeads(t *testing.T) {
	q := seq{2, 40, 7}
	lits := letters(9)
	var rows []row
	for kind := range 3 {
		code := codeOf(kind, q.value(kind))
		top := topCode[kind]
		counts := append(make([]int, code), append([]int{20}, make([]int, top-code-1)...)...)
		ask := func(tail ...int) tab { return written(5, append(slices.Clone(counts), tail...)...) }
		b := onlyOf(q)
		b[kind] = ask(12)
		rows = append(rows, row{"the greatest code", wide + raw(0, base()) + sequenced(1, text(lits), b, q, q), 999, carried(base(), lits, q, q), api.OK})
		stream := backward(strings.Repeat("0", 40))
		for _, wrong := range []tab{ask(6, 6), ask(11, rare), ask(0, 12), ask(0, 0, 12), ask(0, 0, 0, 0, 12), ask(6, 0, 6)} {
			b[kind] = wrong
			rows = append(rows, row{"one more", wide + raw(0, base()) + streamed(1, text(lits), b, 1, stream), 999, "", api.ErrTable})
		}
	}
	hold(t, "P10", rows)
}

// TestHeadsThatAreCut: the block ends within a table, and behind it.
func TestHeadsThatAreCut(t *testing.T) {
	var rows []row
	for _, b := range []tabs{
		{all(0, 2), usual(1), usual(2)},
		{usual(0), all(1, 2), usual(2)},
		{usual(0), usual(1), all(2, 2)},
		{all(0, 2), all(1, 2), all(2, 2)},
		{only(2), all(1, 2), only(4)},
	} {
		modes := b.modes()
		for n := 1; n < len(modes); n++ {
			s := wide + raw(0, base()) + whole(0, text("abcd")+"\x01"+modes[:n]) + raw(1, strings.Repeat("\x00", 40))
			rows = append(rows, row{"cut within the tables", s, 999, "", api.ErrTable})
		}
		s := wide + raw(0, base()) + whole(0, text("abcd")+"\x01"+modes) + raw(1, xs(40))
		rows = append(rows, row{"cut behind the tables", s, 999, "", api.ErrStream})
	}
	hold(t, "P10", rows)
}

// TestHeadsThatEndWithAByte: nothing is passed over behind a head that fills
// its bytes, and what is left of a byte says nothing.
func TestHeadsThatEndWithAByte(t *testing.T) {
	q := seq{2, 40, 7}
	lits := letters(9)
	ends := make([]int, 8)
	for a := 1; a < 24; a++ {
		for z := 1; z < 24; z++ {
			if a+z > 31 {
				continue
			}
			for kind := range 3 {
				code := codeOf(kind, q.value(kind))
				counts := append(make([]int, code), 32-a-z, a, z)
				head := headOf(5, counts)
				ends[len(head)%8]++
				for _, fill := range []string{"0", "1"} {
					for len(head)%8 > 0 {
						head += fill
					}
					b := onlyOf(q)
					b[kind] = tab{2, forward(head), statesOf(5, counts)}
					s := wide + raw(0, base()) + sequenced(1, text(lits), b, q, q)
					hold(t, "P9", []row{{"a head", s, 999, carried(base(), lits, q, q), api.OK}})
				}
			}
		}
	}
	for i, n := range ends {
		if n == 0 {
			t.Errorf("no head ended %d bits into a byte", i)
		}
	}
}

// TestOneCodeHasAllStates: such a table needs bits to begin, and none to go on.
func TestOneCodeHasAllStates(t *testing.T) {
	q := seq{2, 40, 7}
	lits := letters(9)
	var rows []row
	for accuracy := 5; accuracy <= 8; accuracy++ {
		var b tabs
		for kind := range b {
			b[kind] = written(accuracy, append(make([]int, codeOf(kind, q.value(kind))), 1<<accuracy)...)
		}
		bits := strings.Repeat("10", 3*accuracy)[:3*accuracy]
		for n := 1; n <= 3; n++ {
			qs := slices.Repeat([]seq{q}, n)
			stream := bits + strings.Repeat(values(q), n)
			content := carried(base(), lits, qs...)
			rows = append(rows, row{"any states", wide + raw(0, base()) + streamed(1, text(lits), b, n, backward(stream)), 999, content, api.OK})
			rows = append(rows, row{"a bit less", wide + raw(0, base()) + streamed(1, text(lits), b, n, backward(stream[1:])), 999, "", api.ErrStream})
			rows = append(rows, row{"a bit more", wide + raw(0, base()) + streamed(1, text(lits), b, n, backward(stream+"0")), 999, "", api.ErrStream})
		}
	}
	hold(t, "P10", rows)
}

// TestRareCodesAlone: all states are rare ones', the first one that of code 31.
func TestRareCodesAlone(t *testing.T) {
	rares := written(5, times(32, rare)...)
	lits := letters(60)
	var rows []row
	for ml := 3; ml < 35; ml++ {
		b := tabs{rares, rares, rares}
		qs := []seq{{16 + ml%16, 60 - ml, ml}, {ml % 3, 10 + ml, 37 - ml}, {4, 30, ml}}
		bits := high(31-codeOf(api.LL, qs[0].ll), 5) + high(31-codeOf(api.OF, qs[0].of), 5) + high(34-ml, 5) + values(qs[0])
		for i := 1; i < 3; i++ {
			bits += high(31-codeOf(api.LL, qs[i].ll), 5) + high(34-qs[i].ml, 5) + high(31-codeOf(api.OF, qs[i].of), 5) + values(qs[i])
		}
		s := wide + raw(0, base()) + streamed(1, text(lits), b, 3, backward(bits))
		rows = append(rows, row{"rare codes", s, 999, carried(base(), lits, qs...), api.OK})
	}
	hold(t, "P9", rows)
}
