package promises

import (
	"testing"

	"frames/api"
)

// move: OF's value v behind ll literals means the distance used, and then the
// last three are these.
type move struct {
	ll, v int
	used  int
	then  [3]int
}

// firstMoves are moves from 1, 4, 8, with which a frame begins. That of no
// literals and v 3 would be a distance of 0.
var firstMoves = []move{
	{1, 1, 1, [3]int{1, 4, 8}},
	{1, 2, 4, [3]int{4, 1, 8}},
	{1, 3, 8, [3]int{8, 1, 4}},
	{0, 1, 4, [3]int{4, 1, 8}},
	{0, 2, 8, [3]int{8, 1, 4}},
	{2, 1, 1, [3]int{1, 4, 8}},
	{20, 2, 4, [3]int{4, 1, 8}},
	{1, 10, 7, [3]int{7, 1, 4}},
	{0, 10, 7, [3]int{7, 1, 4}},
	// What is told outright moves all, though it be one of the last three.
	{1, 4, 1, [3]int{1, 1, 4}},
	{0, 4, 1, [3]int{1, 1, 4}},
	{1, 7, 4, [3]int{4, 1, 4}},
	{0, 7, 4, [3]int{4, 1, 4}},
	{1, 11, 8, [3]int{8, 1, 4}},
	{0, 11, 8, [3]int{8, 1, 4}},
	{1, 5, 2, [3]int{2, 1, 4}},
	{0, 5, 2, [3]int{2, 1, 4}},
	{1, 60, 57, [3]int{57, 1, 4}},
}

// laterMoves are moves from 20, 30, 40.
var laterMoves = []move{
	{1, 1, 20, [3]int{20, 30, 40}},
	{1, 2, 30, [3]int{30, 20, 40}},
	{1, 3, 40, [3]int{40, 20, 30}},
	{0, 1, 30, [3]int{30, 20, 40}},
	{0, 2, 40, [3]int{40, 20, 30}},
	{0, 3, 19, [3]int{19, 20, 30}},
	{3, 3, 40, [3]int{40, 20, 30}},
	{1, 13, 10, [3]int{10, 20, 30}},
	{0, 13, 10, [3]int{10, 20, 30}},
	{1, 23, 20, [3]int{20, 20, 30}},
	{0, 23, 20, [3]int{20, 20, 30}},
	{1, 33, 30, [3]int{30, 20, 30}},
	{0, 33, 30, [3]int{30, 20, 30}},
	{1, 43, 40, [3]int{40, 20, 30}},
	{0, 43, 40, [3]int{40, 20, 30}},
	{1, 22, 19, [3]int{19, 20, 30}},
	{0, 22, 19, [3]int{19, 20, 30}},
}

// toLater are the moves that make the last three 20, 30, 40.
var toLater = []move{{1, 43, 40, [3]int{}}, {0, 33, 30, [3]int{}}, {1, 23, 20, [3]int{}}}

// probes are moves that show what the last three are.
func probes(last [3]int) []move {
	return []move{
		{1, 1, last[0], [3]int{}}, {1, 2, last[1], [3]int{}}, {1, 3, last[2], [3]int{}},
		{0, 1, last[1], [3]int{}}, {0, 2, last[2], [3]int{}}, {0, 3, last[0] - 1, [3]int{}},
	}
}

// moved is what comes out when the moves are done behind s, with copies of
// several lengths, and the sequences. It is an error if a distance is 0.
func moved(s, lits string, moves ...move) (string, []seq, api.Errno) {
	var qs []seq
	e := api.OK
	for i, m := range moves {
		q := seq{m.ll, m.v, 3 + i}
		qs = append(qs, q)
		if m.used == 0 {
			e = api.ErrOffset
		}
		if e == api.OK {
			s = copied(s+lits[:m.ll], m.used, q.ml)
			lits = lits[m.ll:]
		}
	}
	if e != api.OK {
		return "", qs, e
	}
	return s + lits, qs, api.OK
}

// TestDistances: what each move means, and what the last three are behind it,
// in the same block and in a later one.
func TestDistances(t *testing.T) {
	lits := letters(24)
	var rows []row
	ask := func(moves ...move) {
		out, qs, e := moved(base(), lits, moves...)
		begin := wide + raw(0, base())
		rows = append(rows, row{"in one block", begin + sequenced(1, text(lits), allUsual(), qs...), 999, out, e})
	}
	for _, m := range firstMoves {
		ask(m)
		for _, p := range probes(m.then) {
			ask(m, p)
		}
	}
	for _, m := range laterMoves {
		moves := append(append([]move{}, toLater...), m)
		ask(moves...)
		for _, p := range probes(m.then) {
			ask(append(append([]move{}, moves...), p)...)
		}
	}
	hold(t, "P10", rows)
}

// TestDistancesOverBlocks: the last three stay from block to block, over blocks
// that have no sequences too.
func TestDistancesOverBlocks(t *testing.T) {
	lits := letters(24)
	var rows []row
	for _, m := range laterMoves {
		for _, p := range probes(m.then) {
			out, qs, _ := moved(base(), lits, append(append([]move{}, toLater...), m)...)
			s := wide + raw(0, base()) + sequenced(0, text(lits), allUsual(), qs...)
			s += raw(0, "12345678") + same(0, "9", 3) + whole(0, text("(:)")+"\x00")
			out, qs, e := moved(out+"12345678"+"999"+"(:)", lits, p)
			rows = append(rows, row{"in a later block", s + sequenced(1, text(lits), allUsual(), qs...), 999, out, e})
		}
	}
	hold(t, "P10", rows)
}

// TestDistancesOfANewFrame: each frame begins anew with 1, 4, 8.
func TestDistancesOfANewFrame(t *testing.T) {
	lits := letters(24)
	first, qs, _ := moved(base(), lits, append(append([]move{}, toLater...), laterMoves[2])...)
	ahead := wide + raw(0, base()) + sequenced(1, text(lits), allUsual(), qs...)
	var rows []row
	for _, p := range probes([3]int{1, 4, 8}) {
		out, qs, e := moved(base(), lits, p)
		one := wide + raw(0, base()) + sequenced(1, text(lits), allUsual(), qs...)
		rows = append(rows, row{"the first frame", one, 999, out, e})
		if e == api.OK {
			out = first + out
		}
		rows = append(rows, row{"the second frame", ahead + one, 999, out, e})
		rows = append(rows, row{"behind what is passed over", ahead + passed(2, "ab") + one, 999, out, e})
	}
	hold(t, "P10", rows)
}

// TestFirstLessOne: of each first distance, down to nothing.
func TestFirstLessOne(t *testing.T) {
	lits := letters(24)
	var rows []row
	for first := 1; first <= 5; first++ {
		moves := []move{{1, first + 3, first, [3]int{}}}
		for back := first - 1; back >= 0; back-- {
			moves = append(moves, move{0, 3, back, [3]int{}})
			out, qs, e := moved(base(), lits, moves...)
			rows = append(rows, row{"less one", wide + raw(0, base()) + sequenced(1, text(lits), allUsual(), qs...), 999, out, e})
		}
	}
	out, qs, e := moved(base(), lits, move{0, 3, 0, [3]int{}})
	rows = append(rows, row{"less one at the begin", wide + raw(0, base()) + sequenced(1, text(lits), allUsual(), qs...), 999, out, e})
	hold(t, "P10", rows)
}

// TestLastThreeAheadOfTheFrame: 1, 4 and 8 are further back than all that came
// out.
func TestLastThreeAheadOfTheFrame(t *testing.T) {
	var rows []row
	for n := range 10 {
		for v := 1; v <= 3; v++ {
			for ll := range 2 {
				if ll == 0 && v == 3 {
					continue
				}
				back := []int{1, 4, 8}[v-ll]
				r := row{"one of 1, 4, 8", wide + raw(0, letters(n)) + alone(1, text("XY"), seq{ll, v, 3}), 99, "", api.ErrOffset}
				if back <= n+ll {
					r.out, r.e = copied(letters(n)+"XY"[:ll], back, 3)+"XY"[ll:], api.OK
				}
				rows = append(rows, r)
			}
		}
	}
	hold(t, "P10", rows)
}

// TestDistanceOfAllThatCameOut: just so far back, and one more, in each place.
func TestDistanceOfAllThatCameOut(t *testing.T) {
	earlier := wide + raw(0, base()) + alone(1, text("ab"), seq{1, 20, 9})
	says := carried(base(), "ab", seq{1, 20, 9})
	var rows []row
	for n := range 6 {
		for ll := range 5 {
			for back := 1; back <= n+ll+2; back++ {
				q := seq{ll, back + 3, 4}
				blocks := alone(1, text("WXYZ"), q)
				if n > 0 {
					blocks = raw(0, letters(n)) + blocks
				}
				a := row{"of one frame", wide + blocks, 999, "", api.ErrOffset}
				b := row{"of a second frame", earlier + wide + blocks, 999, "", api.ErrOffset}
				if back <= n+ll {
					a.out, a.e = carried(letters(n), "WXYZ", q), api.OK
					b.out, b.e = says+a.out, api.OK
				}
				rows = append(rows, a, b)
			}
		}
	}
	hold(t, "P10", rows)
}

// TestDistanceIntoCopies: what came out by copies counts, too.
func TestDistanceIntoCopies(t *testing.T) {
	var rows []row
	for back := 1; back <= 12; back++ {
		r := row{"all of the block so far", wide + sequenced(1, text("abc"), allUsual(), seq{2, 5, 7}, seq{1, back + 3, 4}), 99, "", api.ErrOffset}
		if back <= 10 {
			r.out, r.e = carried("", "abc", seq{2, 5, 7}, seq{1, back + 3, 4}), api.OK
		}
		rows = append(rows, r)
	}
	hold(t, "P10", rows)
}

// TestWindow: just as far back as the window, and one more.
func TestWindow(t *testing.T) {
	var rows []row
	for _, w := range []int{0, 1, 7, 8, 9} {
		window := (8 + w%8) << (7 + w/8)
		content, begin := "", open(w)
		for i := range 3 {
			part := letters(window - i)
			begin += raw(0, part)
			content += part
		}
		for back := window - 2; back <= window+3; back++ {
			for ll := range 3 {
				q := seq{ll, back + 3, 5}
				r := row{"a window", begin + alone(1, text("XY"), q), 9999, "", api.ErrOffset}
				if back <= window {
					r.out, r.e = carried(content, "XY", q), api.OK
				}
				rows = append(rows, r)
			}
		}
	}
	// Of one segment the window is the size, which is then passed.
	for size := 20; size < 30; size++ {
		begin := magic + "\x20" + little(uint64(size), 1) + raw(0, letters(size)) + raw(0, letters(size))
		for back := size - 2; back <= size+2; back++ {
			r := row{"of one segment", begin + alone(1, text(""), seq{0, back + 3, 3}), 999, "", api.ErrSize}
			if back > size {
				r.e = api.ErrOffset
			}
			rows = append(rows, r)
		}
	}
	hold(t, "P10", rows)
}

// TestWindowOfTheLastThree: a distance out of the last three is held against
// the window like any other.
func TestWindowOfTheLastThree(t *testing.T) {
	ask := func(size, v int) string {
		filled := same(0, "a", size)
		return magic + "\x20" + little(uint64(size), 1) + filled + filled + filled + sequenced(1, text(""), allUsual(), seq{0, v, 3})
	}
	hold(t, "P10", []row{
		{"4 of 6", ask(6, 1), 99, "", api.ErrSize},
		{"8 of 6", ask(6, 2), 99, "", api.ErrOffset},
		{"8 of 7", ask(7, 2), 99, "", api.ErrOffset},
		{"8 of 8", ask(8, 2), 99, "", api.ErrSize},
	})
}

// TestCopiesThatRunIntoThemselves: each distance with each length.
func TestCopiesThatRunIntoThemselves(t *testing.T) {
	var rows []row
	for back := 1; back <= 20; back++ {
		for ml := 3; ml <= 45; ml++ {
			q := seq{20, back + 3, ml}
			lits := letters(22)
			rows = append(rows, row{"a copy", wide + alone(1, text(lits), q), 99, carried("", lits, q), api.OK})
		}
	}
	hold(t, "P10", rows)
}
