package promises

import (
	"testing"

	"frames/api"
)

// TestWhichErrorAheadOfSequencesComesFirst: those of what stands ahead of the
// stream.
func TestWhichErrorAheadOfSequencesComesFirst(t *testing.T) {
	ask := func(body string) string { return wide + whole(1, body) }
	noTree := coded(3, 0, 3, one(pair, "\x00\x01\x01"))
	hold(t, "P10", []row{
		{"cut ahead of all", wide + block(1, 2, 9, text("abc")+"\x01\x01"), 0, "", api.ErrCut},
		{"lits ahead of seqs", ask("\x20abc"), 0, "", api.ErrLits},
		{"lits ahead of seqs, modes", single(20) + whole(1, plain(1, 0, 21, "x")+"\x01\x01"), 0, "", api.ErrLits},
		{"tree ahead of seqs", ask(noTree), 0, "", api.ErrTree},
		{"tree ahead of seqs, modes", ask(noTree + "\x01\x01"), 0, "", api.ErrTree},
		{"tree ahead of table", ask(noTree + "\x01\xfc"), 0, "", api.ErrTree},
		{"stream of literals ahead of seqs", ask(coded(2, 0, 3, outright(pair)+"\x00") + "\x01\x01"), 0, "", api.ErrStream},
		{"stream of literals ahead of table", ask(coded(2, 0, 3, outright(pair)+"\x00") + "\x01\xfc"), 0, "", api.ErrStream},
		{"seqs, modes, ahead of table", ask(text("abc") + "\x01\xfd"), 0, "", api.ErrSeqs},
		{"seqs, modes, ahead of table, the other bit", ask(text("abc") + "\x01\xfe"), 0, "", api.ErrSeqs},
		{"seqs, modes, ahead of stream", ask(text("abc") + "\x01\x01"), 0, "", api.ErrSeqs},
		{"seqs, modes, ahead of limit", ask(text("abc") + "\x01\x02\x01"), 0, "", api.ErrSeqs},
		{"table ahead of stream", ask(text("abc") + "\x01\xc0"), 0, "", api.ErrTable},
		{"table ahead of stream, OF", ask(text("abc") + "\x01\x30"), 0, "", api.ErrTable},
		{"table ahead of stream, ML", ask(text("abc") + "\x01\x0c"), 0, "", api.ErrTable},
		{"table ahead of stream, a code", ask(text("abc") + "\x01\x54\x01\x01\x35"), 0, "", api.ErrTable},
		{"table ahead of stream, a code and 0", ask(text("abc") + "\x01\x54\x01\x01\x35\x00"), 0, "", api.ErrTable},
		{"table ahead of limit", ask(text("abc") + "\x01\x54\x01\x01\x35\x01"), 0, "", api.ErrTable},
		{"stream ahead of limit", ask(text("abc") + "\x01\x00"), 0, "", api.ErrStream},
		{"stream ahead of limit, 0", ask(text("abc") + "\x01\x00\x00"), 0, "", api.ErrStream},
		{"stream ahead of limit, no room for the states", ask(text("abc") + "\x01\x00\x01"), 0, "", api.ErrStream},
	})
}

// TestWhichErrorOfASequenceComesFirst: a sequence that is wrong in several ways,
// which are taken away one by one.
func TestWhichErrorOfASequenceComesFirst(t *testing.T) {
	begin := open(0) + raw(0, "abc") // Most is 1,024
	// 9 literals where there are 8, more than Most, more than the limit, too far back.
	ask := func(name string, q seq, lits, limit int, less int, e api.Errno) row {
		b := onlyOf(q)
		bits := b.bits(q)
		return row{name, begin + streamed(1, text(letters(lits)), b, 1, backward(bits[:len(bits)-less])), limit, "", e}
	}
	hold(t, "P10", []row{
		ask("all: stream", seq{16, 2000, 1100}, 8, 5, 1, api.ErrStream),
		ask("all, of all bits: stream", seq{16, 2000, 1100}, 8, 5, 21, api.ErrStream),
		ask("seqs, block, limit, offset", seq{16, 2000, 1100}, 8, 5, 0, api.ErrSeqs),
		ask("block, limit, offset", seq{8, 2000, 1100}, 8, 5, 0, api.ErrBlock),
		ask("limit, offset", seq{8, 2000, 1000}, 8, 5, 0, api.ErrLimit),
		ask("offset", seq{8, 2000, 1000}, 8, 1011, 0, api.ErrOffset),
		ask("stream, seqs", seq{16, 4, 3}, 8, 999, 1, api.ErrStream),
		ask("stream, block", seq{8, 4, 1100}, 8, 9999, 1, api.ErrStream),
		ask("stream, limit", seq{8, 4, 3}, 8, 5, 1, api.ErrStream),
		ask("stream, offset", seq{8, 2000, 3}, 8, 999, 1, api.ErrStream),
		ask("seqs, block", seq{9, 4, 1100}, 8, 9999, 0, api.ErrSeqs),
		ask("seqs, limit", seq{9, 4, 3}, 8, 5, 0, api.ErrSeqs),
		ask("seqs, offset", seq{9, 2000, 3}, 8, 999, 0, api.ErrSeqs),
		ask("block, limit", seq{8, 4, 1100}, 8, 999, 0, api.ErrBlock),
		ask("block, offset", seq{8, 2000, 1100}, 8, 9999, 0, api.ErrBlock),
		ask("block, limit, Most and one", seq{8, 4, 1017}, 8, 1027, 0, api.ErrBlock),
		ask("limit, Most", seq{8, 4, 1016}, 8, 1026, 0, api.ErrLimit),
		ask("limit, the literals have room", seq{8, 2000, 3}, 8, 11, 0, api.ErrLimit),
		ask("limit, all but a byte has room", seq{8, 2000, 3}, 8, 13, 0, api.ErrLimit),
		ask("offset, all has room", seq{8, 2000, 3}, 8, 14, 0, api.ErrOffset),
		ask("block, the literals have room", seq{8, 2000, 1017}, 8, 9999, 0, api.ErrBlock),
		ask("block, the first less one is 0", seq{0, 3, 1100}, 0, 5, 0, api.ErrBlock),
		ask("limit, the first less one is 0", seq{0, 3, 3}, 0, 5, 0, api.ErrLimit),
		ask("the first less one is 0", seq{0, 3, 3}, 0, 6, 0, api.ErrOffset),
	})
}

// TestErrorsOfTheStatesThatGoOn: their bits count for the sequence ahead.
func TestErrorsOfTheStatesThatGoOn(t *testing.T) {
	begin := open(0) + raw(0, "abc")
	good := seq{1, 5, 3}
	var rows []row
	for _, f := range []struct {
		name  string
		q     seq
		limit int
		e     api.Errno
	}{
		{"seqs", seq{9, 5, 3}, 999, api.ErrSeqs},
		{"block", seq{2, 5, 1100}, 9999, api.ErrBlock},
		{"limit", seq{2, 5, 3}, 5, api.ErrLimit},
		{"offset", seq{2, 50, 3}, 999, api.ErrOffset},
	} {
		b := allUsual()
		at := b.states([]seq{f.q, good})
		bits := b.begin(at[0]) + values(f.q)
		further := b.onward(at[0], at[1])
		ask := func(bits string) string { return begin + streamed(1, text("defg"), b, 2, backward(bits)) }
		for n := range further {
			rows = append(rows, row{"stream ahead of " + f.name, ask(bits + further[:n]), f.limit, "", api.ErrStream})
		}
		rows = append(rows, row{f.name + " ahead of the next sequence's stream", ask(bits + further), f.limit, "", f.e})
		rows = append(rows, row{f.name + " ahead of bits too many", ask(bits + further + values(good) + "0"), f.limit, "", f.e})
		rows = append(rows, row{f.name, ask(bits + further + values(good)), f.limit, "", f.e})
	}
	hold(t, "P10", rows)
}

// TestErrorsBehindTheLastSequence: a bit too many is met behind all sequences,
// and ahead of the literals that are left.
func TestErrorsBehindTheLastSequence(t *testing.T) {
	begin := open(0) + raw(0, "abc")
	ask := func(name string, q seq, lits int, limit int, more string, e api.Errno) row {
		b := onlyOf(q)
		return row{name, begin + streamed(1, many(lits), b, 1, backward(b.bits(q)+more)), limit, "", e}
	}
	hold(t, "P10", []row{
		ask("seqs ahead of a bit too many", seq{9, 5, 3}, 8, 999, "0", api.ErrSeqs),
		ask("block ahead of a bit too many", seq{8, 5, 1100}, 8, 9999, "0", api.ErrBlock),
		ask("limit ahead of a bit too many", seq{8, 5, 3}, 8, 9, "0", api.ErrLimit),
		ask("offset ahead of a bit too many", seq{8, 50, 3}, 8, 999, "0", api.ErrOffset),
		ask("a bit too many ahead of block", seq{8, 5, 1000}, 900, 9999, "0", api.ErrStream),
		ask("a bit too many ahead of limit", seq{8, 5, 3}, 18, 20, "0", api.ErrStream),
		ask("block of what is left", seq{8, 5, 1000}, 900, 9999, "", api.ErrBlock),
		ask("block of what is left, ahead of limit", seq{8, 5, 1000}, 900, 1500, "", api.ErrBlock),
		ask("limit of what is left", seq{8, 5, 3}, 18, 20, "", api.ErrLimit),
		ask("limit of what is left, one more", seq{8, 5, 3}, 18, 23, "", api.ErrLimit),
		{"a sequence's limit ahead of the block that is left", begin + alone(1, many(1020), seq{8, 5, 9}), 19, "", api.ErrLimit},
		{"offset ahead of the next block", begin + alone(0, text("d"), seq{1, 50, 3}) + block(1, 3, 0, ""), 99, "", api.ErrOffset},
		{"offset ahead of size", single(99) + raw(0, "abc") + alone(1, text("d"), seq{1, 50, 3}), 99, "", api.ErrOffset},
		{"size ahead of check", magic + "\xa4" + little(99, 4) + raw(0, "abc") + alone(1, text("d"), seq{1, 5, 3}) + "nope", 99, "", api.ErrSize},
		{"check", magic + "\x84\x00" + little(7, 4) + raw(0, "abc") + alone(1, text("d"), seq{1, 5, 3}) + "nope", 99, "", api.ErrCheck},
	})
}

// TestErrorsOfLaterSequences: the first wrong one is met first.
func TestErrorsOfLaterSequences(t *testing.T) {
	begin := open(0) + raw(0, "abc")
	good := seq{1, 5, 3}
	wrong := []struct {
		q seq
		e api.Errno
	}{{seq{9, 5, 3}, api.ErrSeqs}, {seq{1, 5, 1100}, api.ErrBlock}, {seq{1, 5, 900}, api.ErrLimit}, {seq{1, 50, 3}, api.ErrOffset}}
	var rows []row
	for _, a := range wrong {
		for _, z := range wrong {
			s := begin + sequenced(1, text("defg"), allUsual(), good, a.q, z.q)
			rows = append(rows, row{"the first wrong one", s, 800, "", a.e})
		}
	}
	hold(t, "P10", rows)
}
