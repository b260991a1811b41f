package promises

import (
	"strings"
	"testing"

	"frames/api"
)

// heads are tables of all sorts that say the codes of runs.
func heads() []tabs {
	return []tabs{
		allUsual(),
		{written(6, 9, 10, 20, 25), written(5, 1, 3, 5, 7, 8, 8), written(6, 3, 17, 9, 0, 30, 5)},
		{written(9, 200, rare, 300, 11), written(8, rare, rare, rare, 100, 53, 100), written(9, rare, 400, 9, rare, 101)},
		{usual(0), written(5, 1, 3, 5, 7, 8, 8), usual(2)},
	}
}

// runs are sequences of the codes that all of heads have, to be told behind
// base.
var runs = []seq{{2, 10, 4}, {0, 35, 3}, {3, 50, 7}, {1, 16, 4}, {2, 60, 5}}

func TestStreamsOfSequences(t *testing.T) {
	lits := letters(12)
	begin := wide + raw(0, base())
	var rows []row
	for _, b := range heads() {
		for n := 1; n <= len(runs); n++ {
			bits := b.bits(runs[:n]...)
			ask := func(stream string) string { return begin + streamed(1, text(lits), b, n, stream) }
			rows = append(rows, row{"just so", ask(backward(bits)), 999, carried(base(), lits, runs[:n]...), api.OK})
			for i := range bits {
				rows = append(rows, row{"too few bits", ask(backward(bits[:i])), 999, "", api.ErrStream})
			}
			for i := 1; i <= 17; i++ {
				rows = append(rows, row{"too many bits", ask(backward(bits + strings.Repeat("0", i))), 999, "", api.ErrStream})
				rows = append(rows, row{"too many bits", ask(backward(bits + strings.Repeat("1", i))), 999, "", api.ErrStream})
			}
			rows = append(rows, row{"no bytes", ask(""), 999, "", api.ErrStream})
			rows = append(rows, row{"a last byte of 0", ask(backward(bits) + "\x00"), 999, "", api.ErrStream})
			rows = append(rows, row{"nothing but 0", ask("\x00\x00\x00\x00"), 999, "", api.ErrStream})
			rows = append(rows, row{"a byte ahead", ask("\x00" + backward(bits)), 999, "", api.ErrStream})
		}
	}
	hold(t, "P10", rows)
}

// TestLastSequenceDoesNotGoOn: its states need bits, but they are not there.
func TestLastSequenceDoesNotGoOn(t *testing.T) {
	lits := letters(12)
	begin := wide + raw(0, base())
	var rows []row
	for _, b := range heads() {
		at := b.states(runs[:3])
		bits := b.begin(at[0]) + values(runs[0]) + b.onward(at[0], at[1]) + values(runs[1])
		further := b.onward(at[1], at[2])
		ask := func(bits string) string { return begin + streamed(1, text(lits), b, 2, backward(bits)) }
		rows = append(rows, row{"it ends there", ask(bits), 999, carried(base(), lits, runs[:2]...), api.OK})
		if further != "" {
			rows = append(rows, row{"it goes on", ask(bits + further), 999, "", api.ErrStream})
		}
	}
	hold(t, "P10", rows)
}

// TestNoBitsAtAll: tables of one state, of codes without bits more.
func TestNoBitsAtAll(t *testing.T) {
	q := seq{1, 1, 3}
	b := onlyOf(q)
	ask := func(n int, stream string) string { return wide + streamed(1, text("abc"), b, n, stream) }
	hold(t, "P10", []row{
		{"once", ask(1, "\x01"), 99, "aaaabc", api.OK},
		{"three times", ask(3, "\x01"), 99, "aaaabbbbcccc", api.OK},
		{"four times, of three literals", ask(4, "\x01"), 99, "", api.ErrSeqs},
		{"a bit", ask(1, "\x02"), 99, "", api.ErrStream},
		{"a bit that is set", ask(1, "\x03"), 99, "", api.ErrStream},
		{"a byte", ask(1, "\x00\x01"), 99, "", api.ErrStream},
		{"no stream", ask(1, "\x00"), 99, "", api.ErrStream},
		{"no byte", ask(1, ""), 99, "", api.ErrStream},
	})
}

func TestLiteralsLeftBehind(t *testing.T) {
	q := seq{2, 4, 3}
	var rows []row
	for n := range 40 {
		lits := letters(n)
		r := row{"so many literals", wide + alone(1, text(lits), q), 99, "", api.ErrSeqs}
		if n >= 2 {
			r.out, r.e = carried("", lits, q), api.OK
		}
		two := row{"so many literals of two", wide + sequenced(1, text(lits), allUsual(), q, seq{9, 5, 4}), 99, "", api.ErrSeqs}
		if n >= 11 {
			two.out, two.e = carried("", lits, q, seq{9, 5, 4}), api.OK
		}
		none := row{"so many literals, and none is asked for", wide + raw(0, "ABC") + alone(1, text(lits), seq{0, 5, 4}), 99, carried("ABC", lits, seq{0, 5, 4}), api.OK}
		rows = append(rows, r, two, none)
	}
	hold(t, "P10", rows)
}

// TestLiteralsOfAllKinds: sequences behind literals of each kind.
func TestLiteralsOfAllKinds(t *testing.T) {
	q, p := seq{5, 7, 6}, seq{2, 9, 4}
	coins := bitsOf(9)
	for _, f := range []struct {
		says, literals string
	}{
		{letters(9), text(letters(9))},
		{xs(9), many(9)},
		{coins, coded(2, 0, 9, outright(pair)+one(pair, coins))},
		{coins, coded(2, 2, 9, outright(pair)+four(pair, coins))},
		{coins, coded(3, 0, 9, one(pair, coins))},
		{coins, coded(3, 1, 9, four(pair, coins))},
	} {
		hold(t, "P10", []row{{"literals", wide + planted + sequenced(1, f.literals, allUsual(), q, p), 99, carried("", f.says, q, p), api.OK}})
	}
}

// TestEndsOfFramesWithSequences: the size and the checksum are of what came out
// by copies, too.
func TestEndsOfFramesWithSequences(t *testing.T) {
	lits := letters(12)
	content := carried(base(), lits, runs...)
	blocks := raw(0, base()) + sequenced(1, text(lits), allUsual(), runs...)
	head := func(flags int, size int) string {
		return magic + little(uint64(flags|0x80), 1) + "\x38" + little(uint64(size), 4)
	}
	n := len(content)
	other := content[:n-1] + "?"
	hold(t, "P11", []row{
		{"the size", head(0, n) + blocks, 999, content, api.OK},
		{"one more", head(0, n+1) + blocks, 999, "", api.ErrSize},
		{"one less", head(0, n-1) + blocks, 999, "", api.ErrSize},
		{"the literals alone", head(0, 64+len(lits)) + blocks, 999, "", api.ErrSize},
		{"the checksum", head(4, n) + blocks + check(content), 999, content, api.OK},
		{"another checksum", head(4, n) + blocks + check(other), 999, "", api.ErrCheck},
		{"of the literals alone", head(4, n) + blocks + check(base()+lits), 999, "", api.ErrCheck},
		{"of a second frame", head(4, n) + blocks + check(content) + head(4, n) + blocks + check(content), 999, content + content, api.OK},
		{"a limit just so", head(4, n) + blocks + check(content), n, content, api.OK},
		{"a limit of one less", head(4, n) + blocks + check(content), n - 1, "", api.ErrLimit},
	})
}

// TestMostByCopies: no block gives more than Most, of literals and copies.
func TestMostByCopies(t *testing.T) {
	begin := open(0) + raw(0, letters(10)) // Most is 1,024
	ask := func(literals string, qs ...seq) string { return begin + sequenced(1, literals, allUsual(), qs...) }
	ahead := letters(10)
	hold(t, "P7", []row{
		{"a copy of Most", ask(text(""), seq{0, 8, 1024}), 9999, carried(ahead, "", seq{0, 8, 1024}), api.OK},
		{"a copy of one more", ask(text(""), seq{0, 8, 1025}), 9999, "", api.ErrBlock},
		{"literals and a copy", ask(many(24), seq{24, 8, 1000}), 9999, carried(ahead, xs(24), seq{24, 8, 1000}), api.OK},
		{"literals and a copy of one more", ask(many(24), seq{24, 8, 1001}), 9999, "", api.ErrBlock},
		{"two copies", ask(text(""), seq{0, 8, 500}, seq{0, 9, 524}), 9999, carried(ahead, "", seq{0, 8, 500}, seq{0, 9, 524}), api.OK},
		{"two copies of one more", ask(text(""), seq{0, 8, 500}, seq{0, 9, 525}), 9999, "", api.ErrBlock},
		{"literals left behind", ask(many(24), seq{4, 8, 1000}), 9999, carried(ahead, xs(24), seq{4, 8, 1000}), api.OK},
		{"one literal more left behind", ask(many(25), seq{4, 8, 1000}), 9999, "", api.ErrBlock},
		{"each block may give Most", begin + sequenced(0, text(""), allUsual(), seq{0, 8, 1024}) + sequenced(1, text(""), allUsual(), seq{0, 8, 1024}), 9999, carried(ahead, "", seq{0, 8, 1024}, seq{0, 8, 1024}), api.OK},
		{"of one segment", magic + "\x20\x14" + raw(0, letters(10)) + sequenced(1, text(""), allUsual(), seq{0, 8, 20}), 9999, "", api.ErrSize},
		{"of one segment, one more", magic + "\x20\x14" + raw(0, letters(10)) + sequenced(1, text(""), allUsual(), seq{0, 8, 21}), 9999, "", api.ErrBlock},
	})
}
