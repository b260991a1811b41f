package promises

import (
	"strings"
	"testing"

	"frames/api"
)

var (
	pair   = []int{1}                                 // the symbols 0 and 1, of a bit each
	steps  = []int{3, 2, 1}                           // the symbols 0 to 3, of 1, 2, 3 and 3 bits
	ladder = []int{11, 10, 9, 8, 7, 6, 5, 4, 3, 2, 1} // the symbols 0 to 11, of 1 to 11 and 11 bits

	wide = open(0x38) // Most is MaxBlock

	// planted gives no bytes and leaves the tree of pair behind.
	planted = lits(0, coded(2, 0, 0, outright(pair)+backward("")))
)

// bitsOf is a text of n of the symbols 0 and 1.
func bitsOf(n int) string {
	b := make([]byte, n)
	for i := range b {
		b[i] = byte(i * i % 7 % 2)
	}
	return string(b)
}

// filling is a text of n symbols that ladder says in a stream of so many bytes.
func filling(n, bytes int) string {
	more := 8*(bytes-1) + 3 - n
	long, one := more/10, more%10
	return strings.Repeat("\x0b", long) + string(rune(one)) + strings.Repeat("\x00", n-long-1)
}

// single is the head of a frame of one segment with that size.
func single(size int) string {
	return magic + "\xa0" + little(uint64(size), 4)
}

// streams is text in one stream in form 0, and in four in the others.
func streams(form int, told []int, text string) string {
	if form == 0 {
		return one(told, text)
	}
	return four(told, text)
}

// headWidth: how many bytes the head of literals has.
func headWidth(kind, form int) int {
	if kind < 2 {
		return []int{1, 2, 1, 3}[form]
	}
	return []int{3, 3, 4, 5}[form]
}

func TestPlainLiterals(t *testing.T) {
	var rows []row
	for _, f := range []struct{ form, size int }{
		{0, 0}, {0, 2}, {0, 16}, {0, 30}, // form 0
		{0, 1}, {0, 3}, {0, 17}, {0, 31}, // form 2
		{1, 0}, {1, 1}, {1, 15}, {1, 16}, {1, 31}, {1, 32}, {1, 1000}, {1, 4095},
		{3, 0}, {3, 1}, {3, 15}, {3, 16}, {3, 4095}, {3, 4096}, {3, 16000},
	} {
		text := some(f.size)
		rows = append(rows, row{"kind 0", wide + lits(1, plain(0, f.form, f.size, text)), api.MaxOut, text, api.OK})
		rows = append(rows, row{"kind 1", wide + lits(1, plain(1, f.form, f.size, "x")), api.MaxOut, xs(f.size), api.OK})
	}
	full := some(api.MaxIn - 13)
	hold(t, "P8", append(rows, []row{
		{"kind 0, MaxIn", wide + lits(1, plain(0, 3, len(full), full)), api.MaxOut, full, api.OK},
		{"kind 1 of a nought", wide + lits(1, plain(1, 0, 5, "\x00")), 5, "\x00\x00\x00\x00\x00", api.OK},
		{"kind 1, no literal", wide + lits(1, plain(1, 0, 0, "x")), 9, "", api.OK},
		{"several blocks", wide + lits(0, plain(0, 0, 3, "abc")) + raw(0, "de") + lits(0, plain(1, 1, 3, "f")) + lits(1, "\x00"), 9, "abcdefff", api.OK},
	}...))
}

func TestCodedLiterals(t *testing.T) {
	var rows []row
	for _, f := range []struct{ form, size int }{
		{0, 0}, {0, 1}, {0, 2}, {0, 5}, {0, 6}, {0, 7}, {0, 8}, {0, 9}, {0, 15}, {0, 16}, {0, 512}, {0, 1023},
		{1, 6}, {1, 7}, {1, 15}, {1, 16}, {1, 512}, {1, 1023},
		{2, 6}, {2, 7}, {2, 1023}, {2, 1024}, {2, 8192}, {2, 16383},
		{3, 6}, {3, 7}, {3, 16383}, {3, 16384}, {3, 65536}, {3, 130000},
	} {
		text := bitsOf(f.size)
		body := streams(f.form, pair, text)
		rows = append(rows, row{"kind 2", wide + lits(1, coded(2, f.form, f.size, outright(pair)+body)), api.MaxOut, text, api.OK})
		rows = append(rows, row{"kind 3", wide + planted + lits(1, coded(3, f.form, f.size, body)), api.MaxOut, text, api.OK})
	}
	hold(t, "P8", rows)
}

// TestGreatestRest: as many bytes behind a head as it can tell, or as Decode
// takes.
func TestGreatestRest(t *testing.T) {
	tree := outright(ladder)
	leave := lits(0, coded(2, 0, 0, tree+backward("")))
	var rows []row
	for form, rest := range []int{1023, 1023, api.MaxIn - 6 - 3 - 4 - 1, api.MaxIn - 6 - 3 - 5 - 1} {
		for kind := 2; kind < 4; kind++ {
			begin, room := wide, rest
			if kind == 2 {
				room -= len(tree)
			} else {
				begin += leave
				if form > 1 {
					rest -= len(leave)
					room = rest
				}
			}
			text, body := filling(room*8/9, room), ""
			if form == 0 {
				body = one(ladder, text)
			} else {
				b := (room - 6) / 4
				q := filling(b*8/9, b)
				last := filling(b*8/9, room-6-3*b)
				text, body = q+q+q+last, four(ladder, q+q+q+last)
			}
			if kind == 2 {
				body = tree + body
			}
			if len(body) != rest {
				t.Fatalf("form %d: a rest of %d, not of %d", form, len(body), rest)
			}
			rows = append(rows, row{"the greatest rest", begin + lits(1, coded(kind, form, len(text), body)), api.MaxOut, text, api.OK})
		}
	}
	hold(t, "P8", rows)
}

// TestNumbersAboveAll: sizes and rests that a head can tell, but that cannot be.
func TestNumbersAboveAll(t *testing.T) {
	tree := outright(pair)
	body := four(pair, bitsOf(100))
	rows := []row{
		{"kind 0, form 3", wide + lits(1, plain(0, 3, 1<<20-1, "abc")), api.MaxOut, "", api.ErrLits},
		{"kind 1, form 3", wide + lits(1, plain(1, 3, 1<<20-1, "x")), api.MaxOut, "", api.ErrLits},
		{"kind 2, form 3", wide + lits(1, coded(2, 3, 1<<18-1, tree+body)), api.MaxOut, "", api.ErrLits},
		{"kind 2, MaxBlock and one", wide + lits(1, coded(2, 3, 1<<17+1, tree+body)), api.MaxOut, "", api.ErrLits},
		{"kind 2, MaxBlock, in too few bits", wide + lits(1, coded(2, 3, 1<<17, tree+body)), api.MaxOut, "", api.ErrStream},
		{"kind 3, form 3", wide + planted + lits(1, coded(3, 3, 1<<18-1, body)), api.MaxOut, "", api.ErrLits},
	}
	for form, rest := range []int{1<<10 - 1, 1<<10 - 1, 1<<14 - 1, 1<<18 - 1} {
		for kind := 2; kind < 4; kind++ {
			s := codedHead(kind, form, 100, rest) + tree + body
			rows = append(rows, row{"the greatest rest", wide + planted + lits(1, s), 999, "", api.ErrLits})
		}
	}
	hold(t, "P8", rows)
}

// TestSizeOfMost: a size of Most, and one more, in each kind and form.
func TestSizeOfMost(t *testing.T) {
	var rows []row
	for _, f := range []struct{ kind, form, most int }{
		{1, 0, 20}, {1, 0, 21}, {1, 1, 20}, {1, 1, 4000}, {1, 3, 20}, {1, 3, 5000}, {1, 3, api.MaxBlock - 1}, {1, 3, api.MaxBlock},
		{2, 0, 40}, {2, 0, 1022}, {2, 1, 40}, {2, 1, 1022}, {2, 2, 40}, {2, 2, 1024}, {2, 2, 16382}, {2, 3, 40}, {2, 3, 20000},
		{3, 0, 40}, {3, 0, 1022}, {3, 1, 40}, {3, 1, 1022}, {3, 2, 40}, {3, 2, 1024}, {3, 2, 16382}, {3, 3, 40}, {3, 3, 20000},
	} {
		for size := f.most - 1; size <= f.most+1; size++ {
			text, block := xs(size), lits(1, plain(f.kind, f.form, size, "x"))
			if f.kind > 1 {
				text = bitsOf(size)
				body := streams(f.form, pair, text)
				if f.kind == 2 {
					body = outright(pair) + body
				}
				block = lits(1, coded(f.kind, f.form, size, body))
			}
			r := row{"a size of Most and near it", single(f.most) + planted + block, api.MaxOut, text, api.OK}
			if size < f.most {
				r.out, r.e = "", api.ErrSize
			} else if size > f.most {
				r.out, r.e = "", api.ErrLits
			}
			rows = append(rows, r)
		}
	}
	hold(t, "P8", append(rows, []row{
		{"a window above MaxBlock", open(0x40) + lits(1, plain(1, 3, api.MaxBlock, "x")), api.MaxOut, xs(api.MaxBlock), api.OK},
		{"a window above MaxBlock, one more", open(0x40) + lits(1, plain(1, 3, api.MaxBlock+1, "x")), api.MaxOut, "", api.ErrLits},
		{"each block may give Most", open(0) + lits(0, plain(1, 1, 1024, "x")) + lits(1, plain(1, 1, 1024, "x")), 2048, xs(2048), api.OK},
		{"kind 0, as much as a block may have", open(0) + lits(1, plain(0, 1, 1021, xs(1021))), 2000, xs(1021), api.OK},
		{"kind 0, Most, and the block has more", open(0) + lits(1, plain(0, 1, 1024, xs(1024))), 2000, "", api.ErrBlock},
	}...))
}

// TestLiteralsThatAreNotThere: the block ends ahead of its literals' end.
func TestLiteralsThatAreNotThere(t *testing.T) {
	rows := []row{{"no byte at all", wide + block(1, 2, 0, ""), 99, "", api.ErrLits}}
	for kind := range 4 {
		for form := range 4 {
			var s string
			switch {
			case kind == 0 && form == 2:
				s = plain(0, 0, 7, "abcdefg")
			case kind == 0:
				s = plain(0, form, 6, "abcdef")
			case kind == 1 && form == 2:
				s = plain(1, 0, 7, "x")
			case kind == 1:
				s = plain(1, form, 0, "x")
			case kind == 2:
				s = coded(2, form, 8, outright(pair)+streams(form, pair, bitsOf(8)))
			case kind == 3:
				s = coded(3, form, 8, streams(form, pair, bitsOf(8)))
			}
			if int(s[0]>>2&3) != form || len(s) <= headWidth(kind, form) {
				t.Fatalf("kind %d, form %d: %x", kind, form, s)
			}
			for n := range len(s) {
				rows = append(rows, row{"cut", wide + planted + block(1, 2, n, s[:n]), 99, "", api.ErrLits})
			}
			rows = append(rows, row{"no count behind", wide + planted + block(1, 2, len(s), s), 99, "", api.ErrSeqs})
		}
	}
	hold(t, "P8", rows)
}

func TestFourStreams(t *testing.T) {
	var rows []row
	for form := 1; form < 4; form++ {
		for n := range 40 {
			text := bitsOf(n)
			body := ""
			if n >= 6 {
				body = four(pair, text)
			} else {
				half := n / 2
				body = joined(one(pair, text[:half]), one(pair, text[half:]), one(pair, ""), one(pair, ""))
			}
			r := row{"so many in four", wide + lits(1, coded(2, form, n, outright(pair)+body)), 99, text, api.OK}
			again := row{"so many in four, by the last tree", wide + planted + lits(1, coded(3, form, n, body)), 99, text, api.OK}
			if n < 6 {
				r.out, r.e = "", api.ErrLits
				again.out, again.e = "", api.ErrLits
			}
			rows = append(rows, r, again)
		}
	}
	a, b, c, d := one(steps, "\x00\x01"), one(steps, "\x02\x02"), one(steps, "\x03\x00"), one(steps, "\x01")
	seven := func(body string) string { return wide + lits(1, coded(2, 1, 7, outright(steps)+body)) }
	hold(t, "P8", append(rows, []row{
		{"seven", seven(joined(a, b, c, d)), 99, "\x00\x01\x02\x02\x03\x00\x01", api.OK},
		{"rounded down", seven(joined(d, a, b, c)), 99, "", api.ErrStream},
		{"two too few in the last", seven(joined(a, b, c, backward(""))), 99, "", api.ErrStream},
		{"one too many in the last", seven(joined(a, b, c, a)), 99, "", api.ErrStream},
	}...))
}

func TestSizesOfFourStreams(t *testing.T) {
	p := [4]string{one(steps, "\x00\x01"), one(steps, "\x02\x02"), one(steps, "\x03\x00"), one(steps, "\x01")}
	seven := func(body string) string { return wide + lits(1, coded(2, 1, 7, outright(steps)+body)) }
	good := joined(p[0], p[1], p[2], p[3])
	var rows []row
	for n := range len(good) {
		rows = append(rows, row{"cut", seven(good[:n]), 99, "", api.ErrStream})
	}
	for i := range 6 {
		for v := range 256 {
			b := []byte(good)
			if b[i] == byte(v) {
				continue
			}
			b[i] = byte(v)
			rows = append(rows, row{"another size", seven(string(b)), 99, "", api.ErrStream})
		}
	}
	for i := range p {
		for _, wrong := range []string{"", "\x00", p[i] + "\x00", p[i] + "\x01", "\x00" + p[i]} {
			q := p
			q[i] = wrong
			rows = append(rows, row{"one of them is wrong", seven(joined(q[0], q[1], q[2], q[3])), 99, "", api.ErrStream})
		}
	}
	long := strings.Repeat("\x03", 3000)
	rows = append(rows, row{"sizes of two bytes", wide + lits(1, coded(2, 2, 12000, outright(steps)+four(steps, strings.Repeat(long, 4)))), api.MaxOut, strings.Repeat(long, 4), api.OK})
	hold(t, "P8", rows)
}

func TestStreams(t *testing.T) {
	text := "\x03\x00\x02\x01\x00\x02"
	bits := say(steps, text)
	ask := func(size int, body string) string {
		return wide + lits(1, coded(2, 0, size, outright(steps)+body))
	}
	rows := []row{
		{"just so", ask(6, backward(bits)), 99, text, api.OK},
		{"one literal less", ask(5, backward(bits)), 99, "", api.ErrStream},
		{"one literal more", ask(7, backward(bits)), 99, "", api.ErrStream},
		{"no bytes", ask(6, ""), 99, "", api.ErrStream},
		{"no bytes, no literals", ask(0, ""), 99, "", api.ErrStream},
		{"a last byte of 0", ask(6, backward(bits)+"\x00"), 99, "", api.ErrStream},
		{"nothing but 0", ask(6, "\x00\x00\x00"), 99, "", api.ErrStream},
		{"nothing but 0, no literals", ask(0, "\x00"), 99, "", api.ErrStream},
		{"no bits, no literals", ask(0, "\x01"), 99, "", api.OK},
		{"a bit, no literals", ask(0, "\x02"), 99, "", api.ErrStream},
		{"a byte, no literals", ask(0, "\x00\x01"), 99, "", api.ErrStream},
		{"no bits, a literal", ask(1, "\x01"), 99, "", api.ErrStream},
	}
	for n := 1; n <= 9; n++ {
		rows = append(rows, row{"bits too few", ask(6, backward(bits[:len(bits)-n])), 99, "", api.ErrStream})
		rows = append(rows, row{"bits too many", ask(6, backward(bits+strings.Repeat("0", n))), 99, "", api.ErrStream})
		rows = append(rows, row{"bits too many", ask(6, backward(bits+strings.Repeat("1", n))), 99, "", api.ErrStream})
	}
	// So that the first bit that is set stands at each place of the last byte.
	for n := range 70 {
		s := strings.Repeat("\x00", n)
		rows = append(rows, row{"so many bits", ask(n, one(steps, s)), 99, s, api.OK})
		rows = append(rows, row{"one bit more", ask(n, one(steps, s+"\x00")), 99, "", api.ErrStream})
		rows = append(rows, row{"two bits more", ask(n, backward(say(steps, s)+"10")), 99, "", api.ErrStream})
		rows = append(rows, row{"a code that is not there whole", ask(n+1, backward(say(steps, s)+"0")), 99, "", api.ErrStream})
		rows = append(rows, row{"a code that is not there whole", ask(n+1, backward(say(steps, s)+"00")), 99, "", api.ErrStream})
	}
	hold(t, "P8", rows)
}

func TestWhichErrorOfLiteralsComesFirst(t *testing.T) {
	good := one(pair, "\x00\x01\x01")
	noTree := outright([]int{2})
	hold(t, "P8", []row{
		{"cut ahead of lits", wide + block(1, 2, 9, "\x18ab"), 9, "", api.ErrCut},
		{"cut ahead of lits, no byte", wide + block(1, 2, 1, ""), 9, "", api.ErrCut},
		{"block ahead of lits", single(2) + block(1, 2, 3, "\x49xx"), 9, "", api.ErrBlock},
		{"lits ahead of tree, the size", single(20) + lits(1, coded(3, 0, 21, good)), 99, "", api.ErrLits},
		{"lits ahead of tree, the size, kind 2", single(20) + lits(1, coded(2, 0, 21, noTree+good)), 99, "", api.ErrLits},
		{"lits ahead of tree, the rest", wide + lits(1, codedHead(3, 0, 3, 9)+good), 99, "", api.ErrLits},
		{"lits ahead of tree, the rest, kind 2", wide + lits(1, codedHead(2, 0, 3, 9)+noTree+good), 99, "", api.ErrLits},
		{"lits ahead of tree, five in four", wide + lits(1, coded(3, 1, 5, joined(good, good, good, good))), 99, "", api.ErrLits},
		{"lits ahead of tree, five in four, kind 2", wide + lits(1, coded(2, 1, 5, noTree)), 99, "", api.ErrLits},
		{"lits ahead of stream", wide + lits(1, coded(2, 1, 5, outright(pair))), 99, "", api.ErrLits},
		{"lits ahead of seqs", wide + block(1, 2, 3, "\x18ab"), 99, "", api.ErrLits},
		{"lits ahead of limit", single(20) + lits(1, plain(1, 0, 21, "x")), 3, "", api.ErrLits},
		{"tree ahead of stream, kind 2", wide + lits(1, coded(2, 0, 3, noTree)), 99, "", api.ErrTree},
		{"tree ahead of stream, kind 3", wide + lits(1, coded(3, 0, 3, "")), 99, "", api.ErrTree},
		{"tree ahead of stream, four", wide + lits(1, coded(3, 1, 6, "abc")), 99, "", api.ErrTree},
		{"tree ahead of seqs", wide + block(1, 2, 3, coded(3, 0, 3, "")), 99, "", api.ErrTree},
		{"tree ahead of limit", wide + lits(1, coded(3, 0, 3, good)), 0, "", api.ErrTree},
		{"stream ahead of seqs", wide + block(1, 2, 6, coded(2, 0, 3, outright(pair)+"\x00")), 99, "", api.ErrStream},
		{"stream ahead of limit", wide + lits(1, coded(2, 0, 3, outright(pair)+"\x00")), 0, "", api.ErrStream},
		{"seqs ahead of limit, no count", wide + block(1, 2, 4, "\x18abc"), 0, "", api.ErrSeqs},
		{"seqs ahead of limit, something behind", wide + block(1, 2, 6, "\x18abc\x00x"), 0, "", api.ErrSeqs},
		{"limit", wide + lits(1, plain(0, 0, 3, "abc")), 2, "", api.ErrLimit},
		{"limit, kind 1", wide + lits(1, plain(1, 3, api.MaxBlock, "x")), api.MaxOut - 1, "", api.ErrLimit},
		{"limit, kind 2", wide + lits(1, coded(2, 0, 3, outright(pair)+good)), 2, "", api.ErrLimit},
		{"limit of all frames", open(0) + raw(1, "ab") + wide + lits(1, plain(0, 0, 3, "abc")), 4, "", api.ErrLimit},
		{"limit ahead of the next block", wide + lits(0, plain(0, 0, 3, "abc")) + block(1, 3, 0, ""), 2, "", api.ErrLimit},
		{"limit ahead of size", single(9) + lits(1, plain(0, 0, 3, "abc")), 2, "", api.ErrLimit},
		{"the block ahead of the next", wide + lits(0, coded(3, 0, 3, good)) + block(1, 3, 0, ""), 99, "", api.ErrTree},
		{"size behind it all", single(9) + lits(1, plain(0, 0, 3, "abc")), 9, "", api.ErrSize},
		{"check behind it all", magic + "\x04\x00" + lits(1, plain(0, 0, 3, "abc")) + "nope", 9, "", api.ErrCheck},
		{"a good check", magic + "\x04\x00" + lits(1, plain(0, 0, 3, "abc")) + check("abc"), 9, "abc", api.OK},
	})
}
