package promises

import (
	"testing"

	"frames/api"
	"frames/frames"
)

func TestArguments(t *testing.T) {
	full := passed(0, xs(api.MaxIn-8))
	for _, c := range []struct {
		s            string
		limit, slack int
		e            api.Errno
	}{
		{"", 0, 0, api.OK},
		{"", api.MaxOut, api.MaxSlack, api.OK},
		{full, 0, 0, api.OK},
		{full + "x", 0, 0, api.ErrArg},
		{xs(api.MaxIn), 0, 0, api.ErrMagic},
		{xs(api.MaxIn + 1), 0, 0, api.ErrArg},
		{"", -1, 0, api.ErrArg},
		{"", api.MaxOut + 1, 0, api.ErrArg},
		{"", 0, -1, api.ErrArg},
		{"", 0, api.MaxSlack + 1, api.ErrArg},
		{"", -1 << 63, 0, api.ErrArg},
		{"", 1<<63 - 1, 0, api.ErrArg},
		{"", 0, -1 << 63, api.ErrArg},
		{"", 0, 1<<63 - 1, api.ErrArg},
		{"", 1 << 32, 0, api.ErrArg},
		{"", 0, 1 << 32, api.ErrArg},
		{"", api.MaxOut, api.MaxSlack + 1, api.ErrArg},
		{"", -1, -1, api.ErrArg},
		{"xyz", -1, 0, api.ErrArg},
		{"wxyz", 0, 65, api.ErrArg},
		{open(0) + raw(1, "abc"), -1, 0, api.ErrArg},
		{open(0) + raw(1, "abc"), 100, 65, api.ErrArg},
		{open(0) + raw(1, "abc"), api.MaxOut + 1, 0, api.ErrArg},
	} {
		if out, e := frames.NewDecoder().Decode(c.s, c.limit, c.slack); out != "" || e != c.e {
			t.Errorf("P5: Decode(%x (%d bytes), %d, %d) = %q, %d, want %d", short(c.s), len(c.s), c.limit, c.slack, short(out), e, c.e)
		}
	}
}

func TestEverySlack(t *testing.T) {
	s := open(0) + raw(1, "abc")
	for slack := 0; slack <= api.MaxSlack; slack++ {
		if out, e := frames.NewDecoder().Decode(s, 3, slack); out != "abc" || e != api.OK {
			t.Errorf("P5: a slack of %d: %q, %d", slack, out, e)
		}
		if out, e := frames.NewDecoder().Decode(s, 2, slack); out != "" || e != api.ErrLimit {
			t.Errorf("P5: a slack of %d, and a limit that is too low: %q, %d", slack, out, e)
		}
	}
}

func TestFramesOneBehindTheOther(t *testing.T) {
	abc := magic + "\x24\x03" + raw(1, "abc") + check("abc")
	five := open(0) + same(1, "x", 5)
	empty := magic + "\x20\x00" + raw(1, "")
	hold(t, "P5", []row{
		{"no bytes", "", 0, "", api.OK},
		{"two frames", abc + five, 100, "abcxxxxx", api.OK},
		{"the other way round", five + abc, 100, "xxxxxabc", api.OK},
		{"an empty one between", five + empty + abc, 100, "xxxxxabc", api.OK},
		{"a limit just so", abc + five, 8, "abcxxxxx", api.OK},
		{"a limit of one less", abc + five, 7, "", api.ErrLimit},
		{"a limit that the first passes", five + abc, 4, "", api.ErrLimit},
		{"an empty one at the limit", abc + empty, 3, "abc", api.OK},
		{"an empty one at limit 0", empty, 0, "", api.OK},
		{"something passed over between", abc + passed(3, "zzz") + five + passed(0, ""), 8, "abcxxxxx", api.OK},
		{"something passed over first", passed(9, "zzz") + abc, 3, "abc", api.OK},
		{"something passed over alone", passed(5, "abc"), 0, "", api.OK},
		{"no frame behind a frame", abc + "abcd", 100, "", api.ErrMagic},
		{"too little for a frame behind a frame", abc + "abc", 100, "", api.ErrCut},
		{"an error in the second", abc + magic + "\x28", 100, "", api.ErrHead},
		{"errors in both", magic + "\x28" + "abcd", 100, "", api.ErrHead},
		{"limit in the first, magic behind", five + "abcd", 4, "", api.ErrLimit},
		{"window of the first counts for it alone", five + magic + "\x20\x02" + raw(1, "abc"), 100, "", api.ErrBlock},
		{"window of the second counts for it alone", magic + "\x20\x02" + raw(1, "ab") + five, 100, "abxxxxx", api.OK},
		{"two bytes left over", abc + five + "zz", 100, "", api.ErrCut},
	})
}

func TestGreatestLimit(t *testing.T) {
	wide := open(0x38) // a window of MaxBlock
	most := same(0, "x", api.MaxBlock)
	hold(t, "P5", []row{
		{"MaxOut bytes", wide + same(1, "x", api.MaxBlock), api.MaxOut, xs(api.MaxOut), api.OK},
		{"and an empty block", wide + most + raw(1, ""), api.MaxOut, xs(api.MaxOut), api.OK},
		{"and one byte more", wide + most + raw(1, "y"), api.MaxOut, "", api.ErrLimit},
		{"in another frame", wide + same(1, "x", api.MaxBlock) + open(0) + same(1, "y", 1), api.MaxOut, "", api.ErrLimit},
		{"a limit of one less", wide + same(1, "x", api.MaxBlock), api.MaxOut - 1, "", api.ErrLimit},
		{"MaxIn bytes in", open(0x38) + raw(1, xs(api.MaxIn-9)), api.MaxOut, xs(api.MaxIn - 9), api.OK},
	})
}
