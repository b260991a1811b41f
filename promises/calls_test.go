package promises

import (
	"math/rand"
	"testing"

	"frames/api"
	"frames/frames"
)

// samples are frames of each sort, good ones.
func samples() []string {
	return []string{
		"",
		passed(5, "abc"),
		magic + "\x20\x03" + raw(1, "abc"),
		open(0) + same(1, "x", 5),
		magic + "\x24\x03" + raw(1, "abc") + check("abc"),
		magic + "\x04\x00" + raw(0, "ab") + same(0, "y", 40) + raw(1, "") + check("ab"+ys(40)),
		magic + "\x64" + little(44, 2) + same(0, "x", 200) + raw(1, xs(100)) + check(xs(300)),
		magic + "\x80\x00" + little(4, 4) + raw(0, "wxy") + raw(1, "z"),
		magic + "\xe7" + little(0, 4) + little(2, 8) + same(1, "q", 2) + check("qq"),
		magic + "\x52\x09" + "\x00\x00" + little(0, 2) + same(0, "x", 255) + same(1, "x", 1),
		open(0) + same(1, "x", 9) + passed(0, "") + passed(15, magic),
		open(0) + lits(0, plain(0, 1, 5, "abcde")) + lits(1, plain(1, 0, 9, "f")),
		open(0) + planted + lits(1, coded(3, 1, 9, four(pair, bitsOf(9)))),
		magic + "\x04\x00" + lits(0, coded(2, 0, 4, outright(steps)+one(steps, "\x02\x01\x00\x03"))) + raw(1, "z") + check("\x02\x01\x00\x03z"),
		open(0) + lits(1, coded(2, 1, 7, tabled(5, []int{0, 23, 8, rare}, []int{1, 1, 2, 3})+four([]int{1, 1, 2, 3}, "\x04\x03\x02\x01\x00\x04\x04"))),
		open(0) + alone(1, text("abcd"), seq{3, 6, 9}),
		magic + "\x04\x00" + sequenced(0, text("abcd"), allUsual(), seq{3, 5, 9}, seq{1, 2, 4}) + sequenced(1, text(""), allUsual().again(), seq{0, 1, 3}) + check(carried("", "abcd", seq{3, 5, 9}, seq{1, 4, 4}, seq{0, 5, 3})),
		open(0) + raw(0, "abcdefgh") + sequenced(1, text("ij"), tabs{all(0, 2), only(1), all(2, 2)}, seq{0, 2, 7}, seq{2, 3, 8}),
	}
}

func TestNewIsNotNil(t *testing.T) {
	if frames.NewDecoder() == nil || frames.NewEncoder() == nil || frames.NewSum() == nil {
		t.Error("P1: New.. gave nil")
	}
}

// agree holds an answer against the model's.
func agree(t *testing.T, d *frames.Decoder, s string, limit, slack int) {
	t.Helper()
	out, e := d.Decode(s, limit, slack)
	if e != api.OK && out != "" {
		t.Fatalf("P1: Decode(%x, %d, %d) = %q beside the error %d", s, limit, slack, out, e)
	}
	want, f := modelSays(s, limit)
	if out != want || e != f {
		t.Fatalf("P5: Decode(%x, %d, %d) = %q, %d, want %q, %d", s, limit, slack, out, e, want, f)
	}
}

// agreeAlways holds an answer of a decoder of its own against the model's.
func agreeAlways(t *testing.T, s string, limit int) {
	t.Helper()
	for _, slack := range []int{0, api.MaxSlack} {
		agree(t, frames.NewDecoder(), s, limit, slack)
	}
}

func TestCutAnywhere(t *testing.T) {
	d := frames.NewDecoder()
	for _, a := range samples() {
		for _, b := range samples() {
			s := a + b
			for i := 0; i <= len(s); i++ {
				agree(t, d, s[:i], 1000, i%65)
			}
		}
	}
}

func TestEveryByteChanged(t *testing.T) {
	d := frames.NewDecoder()
	for _, s := range samples() {
		for i := range len(s) {
			b := []byte(s)
			for v := 0; v < 256; v++ {
				b[i] = byte(v)
				agree(t, d, string(b), 400, 64)
			}
		}
	}
}

// randomFrame is a frame that is good as a rule, and often almost good.
func randomFrame(r *rand.Rand) string {
	content, blocks := "", ""
	for k := r.Intn(4); k >= 0; k-- {
		last := 0
		if k == 0 {
			last = 1
		}
		n := r.Intn(9)
		switch r.Intn(9) {
		case 0:
			n = r.Intn(3000)
		case 1:
			blocks += block(last, 3, n, xs(n))
			continue
		}
		if r.Intn(2) == 0 {
			blocks += same(last, "x", n)
		} else {
			blocks += raw(last, xs(n))
		}
		content += xs(n)
	}
	d := r.Intn(256)
	if r.Intn(8) > 0 {
		d &^= 8
	}
	head := magic + little(uint64(d), 1)
	if d&32 == 0 {
		head += little(uint64(r.Intn(140)), 1)
	}
	dict := uint64(0)
	if r.Intn(8) == 0 {
		dict = uint64(r.Intn(1 << 32))
	}
	head += little(dict, []int{0, 1, 2, 4}[d&3])
	size := uint64(len(content))
	if r.Intn(8) == 0 {
		size = uint64(1) << r.Intn(64)
	}
	switch {
	case d>>6 == 0 && d&32 != 0:
		head += little(size, 1)
	case d>>6 == 1:
		head += little(size-256, 2)
	case d>>6 > 1:
		head += little(size, 1<<(d>>6))
	}
	if d&4 != 0 {
		blocks += check(content)
	}
	return head + blocks
}

func TestRandomFrames(t *testing.T) {
	r := rand.New(rand.NewSource(1))
	d := frames.NewDecoder()
	for range 30000 {
		s := ""
		for k := r.Intn(3); k >= 0; k-- {
			if r.Intn(5) == 0 {
				s += passed(r.Intn(16), xs(r.Intn(5)))
			}
			s += randomFrame(r)
		}
		b := []byte(s)
		switch r.Intn(6) {
		case 0:
			b[r.Intn(len(b))] ^= 1 << r.Intn(8)
		case 1:
			b = b[:r.Intn(len(b)+1)]
		}
		agree(t, d, string(b), []int{0, 8, 20, 300, 4000, api.MaxOut}[r.Intn(6)], r.Intn(api.MaxSlack+1))
	}
}

func TestRandomBytes(t *testing.T) {
	r := rand.New(rand.NewSource(2))
	d := frames.NewDecoder()
	for range 20000 {
		b := make([]byte, r.Intn(40))
		r.Read(b)
		agree(t, d, string(b), r.Intn(1000), r.Intn(65))
		agree(t, d, magic+string(b), r.Intn(1000), r.Intn(65))
		agree(t, d, open(0)+string(b), r.Intn(1000), r.Intn(65))
	}
}

func TestAnyNumbers(t *testing.T) {
	numbers := []int{-1 << 63, -1 << 31, -1, 0, 1, 64, 65, 1 << 17, 1<<17 + 1, 1 << 32, 1<<63 - 1}
	d := frames.NewDecoder()
	for _, s := range append(samples(), "x", magic, xs(api.MaxIn+1)) {
		for _, limit := range numbers {
			for _, slack := range numbers {
				if out, e := d.Decode(s, limit, slack); e != api.OK && out != "" {
					t.Errorf("P1: Decode(%x, %d, %d) = %q beside the error %d", short(s), limit, slack, out, e)
				}
			}
		}
	}
}

func TestEncodeEnds(t *testing.T) {
	x := frames.NewEncoder()
	for _, ch := range []api.Choice{{}, {Block: -1 << 63, Window: 1<<63 - 1, Types: []int{-1}}, {Block: 3, Types: []int{1}, Lits: []int{0}, Modes: []int{0}}} {
		for _, src := range []string{"", "aaaaab", xs(api.MaxSrc + 1)} {
			if out, e := x.Encode(src, ch); e != api.OK && out != "" {
				t.Errorf("P1: Encode(%q, %v) = %q beside the error %d", short(src), ch, out, e)
			}
		}
	}
}

// wrong are inputs that end in errors, each at another place.
func wrong() []string {
	return []string{
		"x",
		magic + "\x28",
		open(0) + raw(0, "left over"),
		open(0) + raw(0, "left over") + "\x07\x00\x00",
		open(0) + raw(1, "left over") + "abcd",
		magic + "\x20\x05" + raw(1, "left"),
		magic + "\x04\x00" + raw(1, "left") + "nope",
		open(0) + same(0, "l", 1000) + same(1, "l", 1000),
		open(0) + lits(1, coded(3, 0, 1, one(pair, "\x01"))),
		open(0) + lits(0, coded(2, 0, 2, outright(pair)+one(pair, "\x01\x00"))) + lits(1, coded(3, 0, 9, "\x01")),
		open(0) + lits(1, coded(2, 0, 2, outright([]int{3, 1})+"\x01")),
		open(0) + block(1, 2, 5, "\x18left"),
		open(0) + alone(0, text("left"), seq{2, 7, 9}) + sequenced(1, text("over"), allUsual(), seq{9, 4, 3}),
		open(0) + raw(0, "left over") + sequenced(1, text("ab"), allUsual().again(), seq{1, 4, 3}),
		open(0) + alone(0, text("left"), seq{2, 5, 9}) + alone(1, text("over"), seq{2, 70, 9}),
		open(0) + alone(0, text("left"), seq{4, 7, 1000}) + alone(1, text("over"), seq{2, 4, 1000}),
		open(0) + raw(0, "left over") + streamed(1, text("ab"), onlyOf(seq{1, 4, 3}), 2, backward("00")),
		open(0) + raw(0, "left over") + alone(1, text("ab"), seq{0, 3, 3}),
	}
}

func TestSamplesAreGood(t *testing.T) {
	d := frames.NewDecoder()
	for _, s := range samples() {
		if _, e := d.Decode(s, 1500, 0); e != api.OK {
			t.Errorf("%x is answered %d", s, e)
		}
	}
	for _, s := range wrong() {
		if _, e := d.Decode(s, 1500, 0); e == api.OK {
			t.Errorf("%x is good", s)
		}
	}
}

func TestAnswersHangOnNothingElse(t *testing.T) {
	inputs := append(samples(), wrong()...)
	one, two := frames.NewDecoder(), frames.NewDecoder()
	for _, before := range inputs {
		for _, s := range inputs {
			one.Decode(before, 1500, 3)
			agree(t, one, s, 1500, 0)
			two.Decode(before, 7, 64)
			agree(t, one, s, 1500, 64)
			agree(t, two, s, 1500, 1)
			agree(t, frames.NewDecoder(), s, 1500, 0)
		}
	}
}

func TestAnswersStay(t *testing.T) {
	d := frames.NewDecoder()
	first, _ := d.Decode(magic+"\x20\x03"+raw(1, "abc"), 100, 64)
	second, _ := d.Decode(magic+"\x20\x03"+raw(1, "xyz"), 100, 64)
	if first != "abc" || second != "xyz" {
		t.Errorf("P2: two answers of one decoder: %q, %q", first, second)
	}
}

func TestInTurn(t *testing.T) {
	d, sum := frames.NewDecoder(), frames.NewSum()
	content := some(70)
	s := magic + "\x24\x46" + raw(1, content) + check(content)
	for i := range len(content) {
		sum.Add([]byte{content[i]})
		agree(t, d, s, 70, 0)
		agree(t, frames.NewDecoder(), cut(s, i), 70, 0)
	}
	if v, want := uint64(sum.Value()), sumOf(content); v != want {
		t.Errorf("P3: a sum with decoders at work: %#x, want %#x", v, want)
	}
}
