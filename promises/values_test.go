package promises

import (
	"testing"

	"frames/api"
)

// ends are the least and the greatest value of a code, and one between.
func ends(t, code int) []int {
	a, z := least[t][code], least[t][code+1]-1
	return []int{a, (a + z) / 2, z}
}

// ways are tables that say the codes of q: each of one state alone; all usual
// ones, where they have the code; and one of the kind that is told by its head.
func ways(kind int, q seq) []tabs {
	all := []tabs{onlyOf(q)}
	code := codeOf(kind, q.value(kind))
	if code < len(usualCounts[kind]) {
		all = append(all, allUsual())
	}
	b := onlyOf(q)
	counts := append(make([]int, code), 5)
	if code < topCode[kind] {
		counts = append(counts, 27)
	} else {
		counts[0] = 27
	}
	b[kind] = written(5, counts...)
	return append(all, b)
}

// byWays are rows of a block of one sequence, told in each way. If it is good,
// no bit more may be there; whatever it is, no bit less.
func byWays(kind int, want row, literals string, q seq) []row {
	var rows []row
	for _, b := range ways(kind, q) {
		r := want
		bits := b.bits(q)
		r.in = want.in + streamed(1, literals, b, 1, backward(bits))
		rows = append(rows, r)
		less := row{want.name + ", a bit less", want.in + streamed(1, literals, b, 1, backward(bits[:max(0, len(bits)-1)])), want.limit, "", api.ErrStream}
		if bits != "" {
			rows = append(rows, less)
		}
		if r.e == api.OK {
			more := row{want.name + ", a bit more", want.in + streamed(1, literals, b, 1, backward(bits+"0")), want.limit, "", api.ErrStream}
			rows = append(rows, more)
		}
	}
	return rows
}

func TestEachCodeOfLiterals(t *testing.T) {
	var rows []row
	for code := range 36 {
		for _, v := range ends(api.LL, code) {
			lits, literals := letters(v), text(letters(v))
			if v > 15000 {
				lits, literals = xs(v), many(v)
			}
			r := row{"LL", wide + raw(0, "ABC"), api.MaxOut, "", api.OK}
			switch {
			case v+3 > api.MaxBlock:
				r.e = api.ErrBlock
			case 3+v+3 > api.MaxOut:
				r.e = api.ErrLimit
			default:
				r.out = copied("ABC"+lits, 3, 3)
			}
			rows = append(rows, byWays(api.LL, r, literals, seq{v, 6, 3})...)
		}
	}
	most := api.MaxBlock - 3
	rows = append(rows, byWays(api.LL, row{"as many as a block can hold", wide, api.MaxOut, xs(api.MaxBlock), api.OK}, many(most), seq{most, 4, 3})...)
	rows = append(rows, byWays(api.LL, row{"one more", wide, api.MaxOut, "", api.ErrBlock}, many(most+1), seq{most + 1, 4, 3})...)
	hold(t, "P10", rows)
}

func TestEachCodeOfMatches(t *testing.T) {
	var rows []row
	for code := range 53 {
		for _, v := range append(ends(api.ML, code), api.MaxBlock-3, api.MaxBlock-2, api.MaxBlock, api.MaxBlock+1) {
			if codeOf(api.ML, v) != code {
				continue
			}
			r := row{"ML", wide + raw(0, "abc"), api.MaxOut, "", api.OK}
			switch {
			case v > api.MaxBlock:
				r.e = api.ErrBlock
			case 3+v > api.MaxOut:
				r.e = api.ErrLimit
			default:
				r.out = copied("abc", 3, v)
			}
			rows = append(rows, byWays(api.ML, r, text(""), seq{0, 6, v})...)
		}
	}
	hold(t, "P10", rows)
}

// TestEachCodeOfOffsets: from just so far back. What is further back than can
// come out is ErrOffset, but not without all of its bits.
func TestEachCodeOfOffsets(t *testing.T) {
	var rows []row
	for code := 2; code < 32; code++ {
		for _, v := range append(ends(api.OF, code), api.MaxOut) {
			if codeOf(api.OF, v) != code {
				continue
			}
			back := v - 3
			content, blocks := letters(min(back, 7)), raw(0, letters(min(back, 7)))
			if n := min(back, api.MaxOut-3) - len(content); n > 0 {
				content += xs(n)
				blocks += same(0, "x", n)
			}
			r := row{"OF", wide + blocks, api.MaxOut, "", api.OK}
			if back > len(content) {
				r.e = api.ErrOffset
			} else {
				r.out = copied(content, back, 3)
			}
			rows = append(rows, byWays(api.OF, r, text(""), seq{0, v, 3})...)
		}
	}
	begin := wide + raw(0, "ABCDEFGH")
	rows = append(rows, byWays(api.OF, row{"code 0", begin, 99, copied("ABCDEFGHi", 1, 3), api.OK}, text("i"), seq{1, 1, 3})...)
	rows = append(rows, byWays(api.OF, row{"code 1, the least", begin, 99, copied("ABCDEFGHi", 4, 3), api.OK}, text("i"), seq{1, 2, 3})...)
	rows = append(rows, byWays(api.OF, row{"code 1, the greatest", begin, 99, copied("ABCDEFGHi", 8, 3), api.OK}, text("i"), seq{1, 3, 3})...)
	hold(t, "P10", rows)
}

// TestOrderOfValues: all three values have bits more, each other ones.
func TestOrderOfValues(t *testing.T) {
	q := seq{19, 45, 54}          // LL 17 and 1; OF 5 and 01101; ML 38 and 011
	bits := "01101" + "011" + "1" // OF, ML, LL
	lits := letters(19)
	s := wide + raw(0, base()) + streamed(1, text(lits), onlyOf(q), 1, backward(bits))
	hold(t, "P10", []row{{"OF, ML, LL", s, 999, copied(base()+lits, 42, 54), api.OK}})
}

// TestOrderOfStates: three tables of two codes each. Each code has half the
// states, so that each state needs a bit to go on.
func TestOrderOfStates(t *testing.T) {
	b := tabs{
		written(5, 0, 16, 16),
		written(6, 0, 0, 0, 32, 32),
		written(7, 64, 64),
	}
	lits := letters(9)
	var rows []row
	for k := range 64 {
		qs := []seq{{1 + k&1, 8 + k>>1&1*8, 3 + k>>2&1}, {1 + k>>3&1, 8 + k>>4&1*8, 3 + k>>5&1}}
		at := b.states(qs)
		bits := high(at[0][0], 5) + high(at[0][1], 6) + high(at[0][2], 7)
		bits += high(qs[0].of%8, codeOf(api.OF, qs[0].of))
		for _, t := range []int{api.LL, api.ML, api.OF} {
			p := b[t].places[at[0][t]]
			bits += high(at[1][t]-p.next, p.needs)
		}
		bits += high(qs[1].of%8, codeOf(api.OF, qs[1].of))
		s := wide + raw(0, base()) + streamed(1, text(lits), b, 2, backward(bits))
		rows = append(rows, row{"the states", s, 999, carried(base(), lits, qs...), api.OK})
	}
	hold(t, "P10", rows)
}

// TestUsualTablesByHand: some of their states, counted by hand. From one state
// to the next it is 43 of 64, and 23 of 32; the rare codes have the last ones.
func TestUsualTablesByHand(t *testing.T) {
	begin := wide + raw(0, base())
	ask := func(bits string) string { return begin + streamed(1, text("abcd"), allUsual(), 1, backward(bits)) }
	hold(t, "P10", []row{
		// LL: 0 has the states 0, 43, 22, 1; 1 has 44, 23, 2; 2 has 45, 24.
		// OF: 0 has 0, 1 has 23, 2 has 14, 3 has 5.
		// ML: 0 has 0; 1 has 43, 22, 1, 44; 2 has 23, 2, 45; 3 has 24, 3.
		{"LL 1, OF 3, ML 2", ask(high(44, 6) + high(5, 5) + high(23, 6) + "101"), 999, copied(base()+"a", 10, 5) + "bcd", api.OK},
		{"LL 2, OF 2, ML 1", ask(high(24, 6) + high(14, 5) + high(22, 6) + "11"), 999, copied(base()+"ab", 4, 4) + "cd", api.OK},
		{"LL 0, OF 1, ML 3", ask(high(1, 6) + high(23, 5) + high(3, 6) + "0"), 999, copied(base(), 8, 6) + "abcd", api.OK},
		{"LL 0, OF 0, ML 0", ask(high(0, 6) + high(0, 5) + high(0, 6)), 999, copied(base(), 4, 3) + "abcd", api.OK},
		// The rare ones of ML: 46 has the state 63, 52 has 57.
		{"ML 46", ask(high(44, 6) + high(5, 5) + high(63, 6) + "101" + high(9, 10)), 9999, copied(base()+"a", 10, 1027+9) + "bcd", api.OK},
		{"ML 52", ask(high(44, 6) + high(5, 5) + high(57, 6) + "101" + high(9, 16)), 99999, copied(base()+"a", 10, 65539+9) + "bcd", api.OK},
		// Of OF: 24 has 31, 28 has 27. Of LL: 32 has 63, 35 has 60.
		{"OF 24", ask(high(44, 6) + high(31, 5) + high(23, 6) + high(0, 24)), 999, "", api.ErrOffset},
		{"OF 24, a bit less", ask(high(44, 6) + high(31, 5) + high(23, 6) + high(0, 23)), 999, "", api.ErrStream},
		{"OF 28", ask(high(44, 6) + high(27, 5) + high(23, 6) + high(0, 28)), 999, "", api.ErrOffset},
		{"OF 28, a bit less", ask(high(44, 6) + high(27, 5) + high(23, 6) + high(0, 27)), 999, "", api.ErrStream},
		{"LL 32", begin + streamed(1, many(8200), allUsual(), 1, backward(high(63, 6)+high(5, 5)+high(23, 6)+"101"+high(5, 13))), 9999, base() + xs(8205), api.OK},
		{"LL 35", begin + streamed(1, many(65540), allUsual(), 1, backward(high(60, 6)+high(5, 5)+high(23, 6)+"101"+high(3, 16))), 99999, base() + xs(65545), api.OK},
	})
}
