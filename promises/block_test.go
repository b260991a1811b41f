package promises

import (
	"testing"

	"frames/api"
)

func TestBlocks(t *testing.T) {
	hold(t, "P7", []row{
		{"type 0", open(0) + raw(1, "abc"), 100, "abc", api.OK},
		{"type 0, no bytes", open(0) + raw(1, ""), 100, "", api.OK},
		{"type 0, n in two bytes", open(0) + raw(1, some(700)), 700, some(700), api.OK},
		{"type 1", open(0) + same(1, "x", 5), 100, "xxxxx", api.OK},
		{"type 1, once", open(0) + same(1, "x", 1), 100, "x", api.OK},
		{"type 1, no time", open(0) + same(1, "x", 0), 100, "", api.OK},
		{"type 1, no time, then more", open(0) + same(0, "x", 0) + raw(1, "abc"), 100, "abc", api.OK},
		{"type 1 of a nought", open(0) + same(1, "\x00", 3), 100, "\x00\x00\x00", api.OK},
		{"type 1, n in three bytes", open(0x38) + same(1, "x", 70000), 70000, xs(70000), api.OK},
		{"several", open(0) + raw(0, "ab") + same(0, "c", 3) + raw(0, "") + raw(0, "d") + same(1, "e", 2), 100, "abcccdee", api.OK},
		{"nothing is read behind the last", open(0) + raw(1, "ab") + raw(1, "cd"), 100, "", api.ErrMagic},
		{"each may give Most", open(0) + same(0, "x", 1024) + raw(0, xs(1024)) + same(1, "x", 1024), 4000, xs(3072), api.OK},
		{"type 1 of one segment", magic + "\x20\x02" + same(1, "x", 2), 2, "xx", api.OK},
		{"a window of nothing", magic + "\x20\x00" + raw(0, "") + same(1, "x", 0), 0, "", api.OK},
	})
}

func TestNoLastBlock(t *testing.T) {
	hold(t, "P7", []row{
		{"type 0", open(0) + raw(0, "abc"), 100, "", api.ErrCut},
		{"type 1", open(0) + same(0, "x", 3), 100, "", api.ErrCut},
		{"a byte of the next", open(0) + raw(0, "abc") + "\x01", 100, "", api.ErrCut},
		{"two bytes of the next", open(0) + raw(0, "abc") + "\x01\x00", 100, "", api.ErrCut},
		{"no block at all", open(0), 100, "", api.ErrCut},
	})
}

func TestBlocksThatAreCut(t *testing.T) {
	var rows []row
	for n := 1; n <= 8; n++ {
		rows = append(rows, row{"type 0", cut(open(0)+raw(1, "abcde"), n), 100, "", api.ErrCut})
	}
	for n := 1; n <= 4; n++ {
		rows = append(rows, row{"type 1", cut(open(0)+same(1, "x", 5), n), 100, "", api.ErrCut})
		rows = append(rows, row{"type 1, no time", cut(open(0)+same(1, "x", 0), n), 100, "", api.ErrCut})
	}
	for n := 1; n <= 6; n++ {
		rows = append(rows, row{"type 2", cut(open(0)+block(1, 2, 6, xs(6)), n), 100, "", api.ErrCut})
	}
	hold(t, "P7", rows)
}

func TestMost(t *testing.T) {
	var rows []row
	for _, f := range []struct {
		name string
		head string
		most int
	}{
		{"a window of 1024", open(0), 1024},
		{"a window of 1152", open(1), 1152},
		{"a window of 1920", open(7), 1920},
		{"a window of 2048", open(8), 2048},
		{"a window of 122880", open(0x37), 122880},
		{"a window of MaxBlock", open(0x38), api.MaxBlock},
		{"a window above MaxBlock", open(0x39), api.MaxBlock},
		{"the greatest window", open(0x88), api.MaxBlock},
	} {
		rows = append(rows, row{f.name + ", type 1", f.head + same(1, "x", f.most), api.MaxOut, xs(f.most), api.OK})
		for kind := range 4 {
			rows = append(rows, row{f.name + ", one more", f.head + block(1, kind, f.most+1, xs(3000)), api.MaxOut, "", api.ErrBlock})
		}
		if f.most < 3000 {
			rows = append(rows, row{f.name + ", type 0", f.head + raw(1, xs(f.most)), api.MaxOut, xs(f.most), api.OK})
			rows = append(rows, row{f.name + ", type 0, one more", f.head + raw(1, xs(f.most+1)), api.MaxOut, "", api.ErrBlock})
		}
	}
	for bit := 11; bit < 21; bit++ {
		rows = append(rows, row{"a bit of n", open(0) + block(1, 1, 1<<bit, "x"), api.MaxOut, "", api.ErrBlock})
	}
	hold(t, "P7", rows)
}

func TestLimit(t *testing.T) {
	rows := []row{
		{"type 1 far beyond", open(0x88) + same(1, "x", api.MaxBlock), 1, "", api.ErrLimit},
		{"the second block", open(0) + raw(0, "abc") + raw(1, "de"), 4, "", api.ErrLimit},
		{"the second block, just so", open(0) + raw(0, "abc") + raw(1, "de"), 5, "abcde", api.OK},
		{"nothing more at the limit", open(0) + raw(0, "abc") + raw(0, "") + same(1, "x", 0), 3, "abc", api.OK},
	}
	for limit := range 9 {
		typed := []string{open(0) + raw(1, "xxxxx"), open(0) + same(1, "x", 5), open(0) + raw(0, "xx") + same(1, "x", 3)}
		for _, s := range typed {
			if limit < 5 {
				rows = append(rows, row{"a limit that is too low", s, limit, "", api.ErrLimit})
			} else {
				rows = append(rows, row{"a limit", s, limit, "xxxxx", api.OK})
			}
		}
	}
	hold(t, "P7", rows)
}

func TestWhichErrorOfABlockComesFirst(t *testing.T) {
	small := magic + "\x20\x02"
	hold(t, "P7", []row{
		{"type 3", open(0) + block(1, 3, 0, ""), 9, "", api.ErrBlock},
		{"type 3 that is not the last", open(0) + block(0, 3, 1, "x") + raw(1, ""), 9, "", api.ErrBlock},
		{"type 3 ahead of cut", open(0) + block(1, 3, 5, ""), 9, "", api.ErrBlock},
		{"n ahead of cut, type 0", small + block(1, 0, 3, ""), 9, "", api.ErrBlock},
		{"n ahead of cut, type 1", small + block(1, 1, 3, ""), 9, "", api.ErrBlock},
		{"n ahead of cut, type 2", small + block(1, 2, 3, ""), 9, "", api.ErrBlock},
		{"n ahead of limit", small + raw(1, "abc"), 1, "", api.ErrBlock},
		{"n ahead of limit, type 1", small + same(1, "x", 3), 1, "", api.ErrBlock},
		{"cut ahead of limit, type 0", open(0) + block(1, 0, 5, "abcd"), 1, "", api.ErrCut},
		{"cut ahead of limit, type 1", open(0) + block(1, 1, 5, ""), 1, "", api.ErrCut},
		{"cut ahead of what type 2 says", open(0) + block(1, 2, 5, "abcd"), 0, "", api.ErrCut},
		{"limit ahead of the next block's error", open(0) + raw(0, "abc") + block(1, 3, 0, ""), 2, "", api.ErrLimit},
		{"limit ahead of the next block's cut", open(0) + raw(0, "abc"), 2, "", api.ErrLimit},
		{"limit ahead of size", magic + "\x20\x04" + raw(1, "abc"), 2, "", api.ErrLimit},
		{"limit ahead of check", magic + "\x04\x00" + raw(1, "abc") + "nope", 2, "", api.ErrLimit},
		{"a block's error ahead of size", magic + "\x20\x04" + block(1, 3, 0, ""), 9, "", api.ErrBlock},
		{"cut ahead of size", magic + "\x20\x04" + raw(0, "abc"), 9, "", api.ErrCut},
	})
}
