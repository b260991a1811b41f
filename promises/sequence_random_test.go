package promises

import (
	"math/rand"
	"slices"
	"testing"

	"frames/api"
	"frames/frames"
)

// randomShares are the counts of a table that can say all these codes.
func randomShares(r *rand.Rand, accuracy, top int, codes []int) []int {
	counts := make([]int, top+1)
	left := 1 << accuracy
	var open []int
	for code := range counts {
		if !slices.Contains(codes, code) && (r.Intn(5) > 0 || left < 40) {
			continue
		}
		counts[code] = 1
		left--
		if r.Intn(3) == 0 {
			counts[code] = rare
		} else {
			open = append(open, code)
		}
	}
	for left > 0 && len(open) == 0 {
		code := r.Intn(top + 1)
		if counts[code] == 0 {
			left--
		}
		counts[code] = 1
		open = []int{code}
	}
	for left > 0 {
		n := 1 + r.Intn(left)
		counts[open[r.Intn(len(open))]] += n
		left -= n
	}
	for counts[len(counts)-1] == 0 {
		counts = counts[:len(counts)-1]
	}
	return counts
}

// randomTab is a table of the kind that can say the codes; last is the last one
// of the frame.
func randomTab(r *rand.Rand, kind int, codes []int, last tab) tab {
	says := func(b tab, code int) bool {
		return slices.ContainsFunc(b.places, func(p place) bool { return p.symbol == code })
	}
	for {
		var b tab
		switch r.Intn(4) {
		case 0:
			b = usual(kind)
		case 1:
			b = only(codes[0])
		case 2:
			accuracy := 6 + r.Intn(topAccuracy[kind]-5)
			if len(codes) < 20 {
				accuracy--
			}
			b = written(accuracy, randomShares(r, accuracy, topCode[kind], codes)...)
		case 3:
			b = last.again()
		}
		if !slices.ContainsFunc(codes, func(code int) bool { return !says(b, code) }) {
			return b
		}
	}
}

// randomRun is a sequence that is good as a rule, where so many bytes are there
// so far.
func randomRun(r *rand.Rand, so int) seq {
	q := seq{r.Intn(4), 1 + r.Intn(3), 3 + r.Intn(6)}
	if r.Intn(4) == 0 {
		q.ll = r.Intn(40)
	}
	if r.Intn(3) > 0 && so+q.ll > 0 {
		q.of = 4 + r.Intn(so+q.ll)
	}
	if r.Intn(5) == 0 {
		q.ml = 3 + r.Intn(150)
	}
	return q
}

// randomSequences is a frame of blocks with sequences.
func randomSequences(r *rand.Rand) string {
	s := wide
	var last tabs
	so := 0
	if r.Intn(4) > 0 {
		s += raw(0, base())
		so = 64
	}
	for end := 0; end == 0; {
		end = r.Intn(4) / 3
		var qs []seq
		asked := 0
		for n := 1 + r.Intn(8); n > 0; n-- {
			q := randomRun(r, so)
			qs = append(qs, q)
			asked += q.ll
			so += q.ll + q.ml
		}
		if r.Intn(5) == 0 {
			for i := range qs {
				asked += qs[0].ll - qs[i].ll
				qs[i] = qs[0]
			}
		}
		var b tabs
		for kind := range b {
			var codes []int
			for _, q := range qs {
				codes = append(codes, codeOf(kind, q.value(kind)))
			}
			b[kind] = randomTab(r, kind, codes, last[kind])
		}
		last = b
		left := r.Intn(5)
		so += left
		s += sequenced(end, text(some(asked+left)), b, qs...)
		if end == 0 && r.Intn(4) == 0 {
			s += raw(0, "mno") + whole(0, text("pqr")+"\x00")
			so += 6
		}
	}
	return s
}

// TestRandomSequences: frames with sequences, good ones as a rule, and with a
// bit turned, and cut.
func TestRandomSequences(t *testing.T) {
	r := rand.New(rand.NewSource(7))
	d := frames.NewDecoder()
	met := map[api.Errno]int{}
	good := 0
	for range 1500 {
		s := randomSequences(r)
		out, e := modelSays(s, api.MaxOut)
		agreeAlways(t, s, api.MaxOut)
		if e == api.OK {
			good++
			agree(t, d, s, len(out), 0)
			agree(t, d, s, max(0, len(out)-1), 0)
			agree(t, d, s, r.Intn(len(out)+1), 0)
		}
		for range 10 {
			b := []byte(s)
			b[r.Intn(len(b))] ^= 1 << r.Intn(8)
			agree(t, d, string(b), 3000, 0)
			agree(t, d, s[:r.Intn(len(s))], 3000, 0)
			_, e := d.Decode(string(b), 3000, 0)
			met[e]++
		}
	}
	if good < 900 {
		t.Errorf("only %d good ones", good)
	}
	for _, e := range []api.Errno{api.OK, api.ErrBlock, api.ErrStream, api.ErrSeqs, api.ErrTable, api.ErrOffset, api.ErrLimit} {
		if met[e] < 20 {
			t.Errorf("error %d was met %d times", e, met[e])
		}
	}
}

// TestRandomTables: any bytes as tables and a stream.
func TestRandomTablesOfSequences(t *testing.T) {
	r := rand.New(rand.NewSource(8))
	d := frames.NewDecoder()
	begin := wide + raw(0, base()) + sequenced(0, text("abcd"), allUsual(), seq{1, 20, 4})
	met := map[api.Errno]int{}
	for range 60000 {
		b := make([]byte, 1+r.Intn(24))
		r.Read(b)
		b[0] = b[0]&15 | byte(r.Intn(16)<<4)
		if r.Intn(2) == 0 {
			b[0] = b[0]&^15 | byte(r.Intn(4))
		}
		modes := little(uint64(r.Intn(64)<<2), 1)
		s := begin + whole(1, text(letters(31))+little(uint64(1+r.Intn(4)), 1)+modes+string(b))
		agree(t, d, s, 600, 0)
		_, e := d.Decode(s, 600, 0)
		met[e]++
	}
	for _, e := range []api.Errno{api.ErrStream, api.ErrSeqs, api.ErrTable, api.ErrOffset, api.ErrLimit} {
		if met[e] < 20 {
			t.Errorf("error %d was met %d times", e, met[e])
		}
	}
}
