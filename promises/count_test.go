package promises

import (
	"strings"
	"testing"

	"frames/api"
)

// three are tables of which each sequence copies three bytes and takes two bits
// for it.
var three = onlyOf(seq{0, 4, 3})

// repeated are the bits of n such sequences.
func repeated(n int) string {
	return strings.Repeat("00", n)
}

// counted is a frame of a block of one byte and one of n sequences of three;
// count tells how many.
func counted(count string, n int) string {
	return wide + raw(0, "x") + whole(1, text("")+count+three.modes()+backward(repeated(n)))
}

func TestNoSequences(t *testing.T) {
	none := func(count string) string { return wide + whole(1, text("abc")+count) }
	hold(t, "P10", []row{
		{"none", none("\x00"), 9, "abc", api.OK},
		{"none, told in two bytes", none("\x80\x00"), 9, "abc", api.OK},
		{"none of no literals", wide + whole(1, text("")+"\x00"), 0, "", api.OK},
		{"something behind none", none("\x00\x00"), 9, "", api.ErrSeqs},
		{"modes behind none", none("\x00" + three.modes()), 9, "", api.ErrSeqs},
		{"modes and a stream behind none", none("\x00" + three.modes() + "\x01"), 9, "", api.ErrSeqs},
		{"something behind none, told in two bytes", none("\x80\x00\x00"), 9, "", api.ErrSeqs},
		{"much behind none", none("\x00" + xs(50)), 9, "", api.ErrSeqs},
		{"something behind none, and a limit that is too low", none("\x00\x00"), 0, "", api.ErrSeqs},
	})
}

func TestHowMany(t *testing.T) {
	var rows []row
	for _, f := range []struct {
		count string
		n     int
	}{
		{"\x01", 1}, {"\x02", 2}, {"\x40", 64}, {"\x7e", 126}, {"\x7f", 127},
		{"\x80\x01", 1}, {"\x80\x02", 2}, {"\x80\x7f", 127}, {"\x80\x80", 128}, {"\x80\x81", 129}, {"\x80\xff", 255},
		{"\x81\x00", 256}, {"\x81\x01", 257}, {"\x82\x00", 512}, {"\x90\x05", 4101}, {"\xfd\xff", 32255}, {"\xfe\x00", 32256}, {"\xfe\xff", 32511},
		{"\xff\x00\x00", 32512}, {"\xff\x01\x00", 32513}, {"\xff\xff\x00", 32767}, {"\xff\x00\x01", 32768}, {"\xff\x01\x02", 33025}, {"\xff\xaa\x2b", 43690},
	} {
		rows = append(rows, row{"so many", counted(f.count, f.n), api.MaxOut, xs(1 + 3*f.n), api.OK})
		rows = append(rows, row{"one more in the stream", counted(f.count, f.n+1), api.MaxOut, "", api.ErrStream})
		rows = append(rows, row{"one less in the stream", counted(f.count, f.n-1), api.MaxOut, "", api.ErrStream})
	}
	hold(t, "P10", rows)
}

// TestMoreThanABlockHolds: each sequence gives three bytes and more.
func TestMoreThanABlockHolds(t *testing.T) {
	// No bits at all: the second of the last distances, then the first, ..
	flat := onlyOf(seq{0, 1, 3})
	ask := func(count string) string {
		return wide + same(0, "x", 4) + whole(1, text("")+count+flat.modes()+"\x01")
	}
	hold(t, "P10", []row{
		{"43,689", ask("\xff\xa9\x2b"), api.MaxOut, xs(4 + 3*43689), api.OK},
		{"43,690, above MaxOut", ask("\xff\xaa\x2b"), api.MaxOut, "", api.ErrLimit},
		{"43,691, above Most, but above MaxOut earlier", ask("\xff\xab\x2b"), api.MaxOut, "", api.ErrLimit},
		{"the most that can be told", ask("\xff\xff\xff"), api.MaxOut, "", api.ErrLimit},
		{"the most that can be told, with no literals to copy from", wide + whole(1, text("")+"\xff\xff\xff"+flat.modes()+"\x01"), api.MaxOut, "", api.ErrOffset},
		{"the most that can be told, in a small window", open(0) + same(0, "x", 4) + whole(1, text("")+"\xff\xff\xff"+flat.modes()+"\x01"), api.MaxOut, "", api.ErrBlock},
	})
}

func TestCountsThatAreNotThere(t *testing.T) {
	ask := func(count string) string { return wide + whole(1, text("abc")+count) }
	var rows []row
	for _, count := range []string{"", "\x80", "\x81", "\xc0", "\xfe", "\xff", "\xff\x00", "\xff\xff"} {
		rows = append(rows, row{"how many is not there", ask(count), 9, "", api.ErrSeqs})
		rows = append(rows, row{"how many is not there, another block behind", wide + whole(0, text("abc")+count) + raw(1, "\x00\x00"), 9, "", api.ErrSeqs})
	}
	for _, count := range []string{"\x01", "\x02", "\x7f", "\x80\x01", "\x80\x80", "\x81\x00", "\xfe\xff", "\xff\x00\x00", "\xff\xff\xff"} {
		rows = append(rows, row{"the modes are not there", ask(count), 9, "", api.ErrSeqs})
		rows = append(rows, row{"the modes are not there, another block behind", wide + whole(0, text("abc")+count) + raw(1, "\x00\x00"), 9, "", api.ErrSeqs})
	}
	hold(t, "P10", rows)
}

// TestReservedBitsOfModes: a block that is good but for them.
func TestReservedBitsOfModes(t *testing.T) {
	q := seq{1, 4, 5}
	for _, b := range []tabs{allUsual(), onlyOf(q), {usual(0), only(2), usual(2)}} {
		good := sequenced(1, text("a"), b, q)
		at := 3 + 2 + 1
		for bits := range 4 {
			s := []byte(good)
			s[at] |= byte(bits)
			want := row{"the modes", wide + string(s), 9, "aaaaaa", api.OK}
			if bits > 0 {
				want.out, want.e = "", api.ErrSeqs
			}
			hold(t, "P10", []row{want})
		}
	}
}

// TestEveryModes: each byte as the modes, also where three tables were there
// in an earlier block.
func TestEveryModes(t *testing.T) {
	q := seq{1, 4, 5}
	begin := wide + sequenced(0, text("a"), onlyOf(q), q)
	for modes := range 256 {
		for _, tail := range []string{"", "\x01", "\x01\x02\x02\x10", "\x00\x00\x00\x01", some(20) + "\x01"} {
			for _, head := range []string{wide, begin} {
				s := head + whole(1, text("abc")+"\x01"+little(uint64(modes), 1)+tail)
				agreeAlways(t, s, 1000)
				if modes&3 > 0 {
					hold(t, "P10", []row{{"a reserved bit", s, 1000, "", api.ErrSeqs}})
				}
			}
		}
	}
}
