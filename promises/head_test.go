package promises

import (
	"testing"

	"frames/api"
)

func TestFirstNumber(t *testing.T) {
	rest := "\x20\x01" + raw(1, "x")
	rows := []row{
		{"a frame", magic + rest, 9, "x", api.OK},
		{"one byte", "x", 9, "", api.ErrCut},
		{"three bytes of no frame", "xyz", 9, "", api.ErrCut},
		{"four bytes of no frame", "wxyz", 9, "", api.ErrMagic},
		{"the highest byte first", "\xfd\x2f\xb5\x28" + rest, 9, "", api.ErrMagic},
		{"the number alone", magic, 9, "", api.ErrCut},
		{"the number less a byte", magic[:3], 9, "", api.ErrCut},
		{"one below those that are passed over", little(0x184D2A4F, 4) + little(0, 4), 9, "", api.ErrMagic},
		{"one above those that are passed over", little(0x184D2A60, 4) + little(0, 4), 9, "", api.ErrMagic},
		{"no number at all", little(0, 4), 9, "", api.ErrMagic},
	}
	for bit := range 32 {
		rows = append(rows, row{"a bit of the number turned", little(0xFD2FB528^1<<bit, 4) + rest, 9, "", api.ErrMagic})
	}
	for bit := 4; bit < 32; bit++ {
		rows = append(rows, row{"a bit of a passed one turned", little(0x184D2A50^1<<bit, 4) + little(0, 4), 9, "", api.ErrMagic})
	}
	hold(t, "P6", rows)
}

func TestPassedOver(t *testing.T) {
	x := magic + "\x20\x01" + raw(1, "x")
	long := passed(7, xs(700))
	rows := []row{
		{"a frame in it", passed(4, x), 9, "", api.OK},
		{"a size of two bytes", long + x, 9, "x", api.OK},
		{"a byte less", cut(long, 1), 9, "", api.ErrCut},
		{"a byte more", long + "x", 9, "", api.ErrCut},
		{"the greatest size", little(0x184D2A50, 4) + "\xff\xff\xff\xff" + xs(90), 9, "", api.ErrCut},
		{"a size of 2^31", little(0x184D2A50, 4) + "\x00\x00\x00\x80" + xs(90), 9, "", api.ErrCut},
		{"a size of 2^24", little(0x184D2A50, 4) + "\x00\x00\x00\x01", 9, "", api.ErrCut},
		{"a size of 2^16", little(0x184D2A50, 4) + "\x00\x00\x01\x00", 9, "", api.ErrCut},
	}
	for k := range 16 {
		rows = append(rows, row{"each number", passed(k, "abc") + x, 9, "x", api.OK})
		rows = append(rows, row{"no bytes to pass over", passed(k, "") + x, 9, "x", api.OK})
		for n := 1; n <= 10; n++ {
			rows = append(rows, row{"cut", cut(passed(k, "abc"), n), 9, "", api.ErrCut})
		}
	}
	hold(t, "P6", rows)
}

// TestEveryDescriptor lays a frame of 300 bytes behind each descriptor.
func TestEveryDescriptor(t *testing.T) {
	var rows []row
	for d := range 256 {
		fields := ""
		if d&32 == 0 {
			fields += "\x00"
		}
		fields += little(0, []int{0, 1, 2, 4}[d&3])
		n := 300
		switch {
		case d>>6 == 0 && d&32 != 0:
			n = 200
			fields += "\xc8"
		case d>>6 == 1:
			fields += "\x2c\x00"
		case d>>6 == 2:
			fields += little(300, 4)
		case d>>6 == 3:
			fields += little(300, 8)
		}
		head := magic + little(uint64(d), 1)
		s := head + fields + same(0, "x", 100) + same(1, "x", n-100)
		if d&4 != 0 {
			s += check(xs(n))
		}
		if d&8 != 0 {
			rows = append(rows, row{"bit 3", s, 400, "", api.ErrHead})
			rows = append(rows, row{"bit 3, nothing behind", head, 400, "", api.ErrHead})
			continue
		}
		rows = append(rows, row{"a descriptor", s, n, xs(n), api.OK})
		for i := range len(fields) {
			rows = append(rows, row{"a head that is cut", head + fields[:i], 400, "", api.ErrCut})
		}
		rows = append(rows, row{"a head alone", head + fields, 400, "", api.ErrCut})
	}
	hold(t, "P6", rows)
}

// TestEveryWindow finds each window by the greatest block that it allows.
func TestEveryWindow(t *testing.T) {
	var rows []row
	for w := range 256 {
		window := 1 << (10 + w/8)
		window += window / 8 * (w % 8)
		if window > api.MaxWindow {
			rows = append(rows, row{"too great", open(w) + raw(1, ""), 9, "", api.ErrWindow})
			continue
		}
		most := min(window, api.MaxBlock)
		rows = append(rows, row{"just Most", open(w) + same(1, "x", most), api.MaxOut, xs(most), api.OK})
		rows = append(rows, row{"one more", open(w) + same(1, "x", most+1), api.MaxOut, "", api.ErrBlock})
	}
	hold(t, "P6", rows)
}

func TestDictionary(t *testing.T) {
	var rows []row
	for d, width := range []int{0, 1, 2, 4} {
		head := magic + little(uint64(d), 1) + "\x00"
		single := magic + little(uint64(d|32), 1)
		end := raw(1, "x")
		rows = append(rows, row{"none", head + little(0, width) + end, 9, "x", api.OK})
		rows = append(rows, row{"none, of one segment", single + little(0, width) + "\x01" + end, 9, "x", api.OK})
		for bit := range 8 * width {
			rows = append(rows, row{"named", head + little(1<<bit, width) + end, 9, "", api.ErrDict})
			rows = append(rows, row{"named, of one segment", single + little(1<<bit, width) + "\x01" + end, 9, "", api.ErrDict})
		}
	}
	hold(t, "P6", rows)
}

// TestSizes asks each width of the size, with and without one segment.
func TestSizes(t *testing.T) {
	one := func(n uint64) string { return magic + "\x20" + little(n, 1) }
	two := func(n uint64) string { return magic + "\x60" + little(n-256, 2) }
	four := func(n uint64) string { return magic + "\xa0" + little(n, 4) }
	eight := func(n uint64) string { return magic + "\xe0" + little(n, 8) }
	rows := []row{
		{"one byte, 0", one(0) + raw(1, ""), 0, "", api.OK},
		{"one byte, 1", one(1) + raw(1, "x"), 1, "x", api.OK},
		{"one byte, 255", one(255) + same(1, "x", 255), 255, xs(255), api.OK},
		{"two bytes, 256", two(256) + same(1, "x", 256), 256, xs(256), api.OK},
		{"two bytes, 511", two(511) + same(1, "x", 511), 511, xs(511), api.OK},
		{"two bytes, 512", two(512) + same(1, "x", 512), 512, xs(512), api.OK},
		{"two bytes, 65791", two(65791) + same(1, "x", 65791), 65791, xs(65791), api.OK},
		{"four bytes, 0", four(0) + raw(1, ""), 0, "", api.OK},
		{"four bytes, 3", four(3) + raw(1, "abc"), 3, "abc", api.OK},
		{"four bytes, 70000", four(70000) + same(1, "x", 70000), 70000, xs(70000), api.OK},
		{"eight bytes, 0", eight(0) + raw(1, ""), 0, "", api.OK},
		{"eight bytes, 3", eight(3) + raw(1, "abc"), 3, "abc", api.OK},
		{"eight bytes, 131072", eight(131072) + same(1, "x", 131072), 131072, xs(131072), api.OK},
	}
	for _, head := range []string{one(200), one(255), two(256), two(4000), two(65791), four(40), four(100000), eight(40), eight(100000)} {
		m := model{s: head[5:]}
		n := int(m.number(uint64(len(m.s))))
		if head[4] == 0x60 {
			n += 256
		}
		rows = append(rows, row{"the window is the size", head + same(1, "x", n), api.MaxOut, xs(n), api.OK})
		rows = append(rows, row{"a block of one more", head + same(1, "x", n+1), api.MaxOut, "", api.ErrBlock})
		rows = append(rows, row{"one byte less comes out", head + same(1, "x", n-1), api.MaxOut, "", api.ErrSize})
		rows = append(rows, row{"one byte more comes out", head + same(0, "x", n) + raw(1, "x"), api.MaxOut, "", api.ErrSize})
	}
	rows = append(rows, mostOfOneSegment()...)
	hold(t, "P6", rows)
}

// mostOfOneSegment: sizes about MaxBlock, which only one segment can tell.
func mostOfOneSegment() []row {
	var rows []row
	for n := api.MaxBlock - 1; n <= api.MaxBlock+1; n++ {
		head := magic + "\xa0" + little(uint64(n), 4)
		most := min(n, api.MaxBlock)
		rows = append(rows, row{"a size about MaxBlock, one more", head + same(1, "x", most+1), api.MaxOut, "", api.ErrBlock})
		if n == most {
			rows = append(rows, row{"a size about MaxBlock", head + same(1, "x", n), api.MaxOut, xs(n), api.OK})
		} else {
			rows = append(rows, row{"a size above MaxBlock", head + same(1, "x", most), api.MaxOut, "", api.ErrSize})
		}
	}
	return rows
}

func TestSizesBesideAWindow(t *testing.T) {
	two := func(n uint64) string { return magic + "\x40\x00" + little(n-256, 2) }
	four := func(n uint64) string { return magic + "\x80\x00" + little(n, 4) }
	eight := func(n uint64) string { return magic + "\xc0\x00" + little(n, 8) }
	rows := []row{
		{"not told", open(0) + raw(1, "abc"), 3, "abc", api.OK},
		{"two bytes", two(300) + same(1, "x", 300), 300, xs(300), api.OK},
		{"two bytes, beyond the window", two(2000) + same(0, "x", 1000) + same(1, "x", 1000), 2000, xs(2000), api.OK},
		{"the window holds, not the size", two(2000) + same(1, "x", 1025), 2000, "", api.ErrBlock},
		{"the window holds, though the size is less", four(3) + same(1, "x", 1024), 2000, "", api.ErrSize},
		{"four bytes", four(3) + raw(1, "abc"), 3, "abc", api.OK},
		{"four bytes, none come out", four(3) + raw(1, ""), 3, "", api.ErrSize},
		{"four bytes, 0, and some come out", four(0) + raw(1, "abc"), 3, "", api.ErrSize},
		{"eight bytes", eight(3) + raw(1, "abc"), 3, "abc", api.OK},
		{"eight bytes, 0, and some come out", eight(0) + raw(1, "abc"), 3, "", api.ErrSize},
		{"the greatest of four bytes", four(1<<32-1) + raw(1, "abc"), 3, "", api.ErrSize},
		{"the greatest of eight bytes", eight(1<<64-1) + raw(1, "abc"), 3, "", api.ErrSize},
	}
	for bit := range 32 {
		rows = append(rows, row{"a bit of four bytes", four(1<<bit) + raw(1, ""), 3, "", api.ErrSize})
	}
	for bit := range 64 {
		rows = append(rows, row{"a bit of eight bytes", eight(1<<bit) + raw(1, ""), 3, "", api.ErrSize})
	}
	hold(t, "P6", rows)
}

func TestGreatestWindow(t *testing.T) {
	four := func(n uint64) string { return magic + "\xa0" + little(n, 4) + raw(1, "") }
	eight := func(n uint64) string { return magic + "\xe0" + little(n, 8) + raw(1, "") }
	rows := []row{
		{"a byte, just so", open(0x88) + raw(1, ""), 9, "", api.OK},
		{"a byte, the next one", open(0x89) + raw(1, ""), 9, "", api.ErrWindow},
		{"of one segment, just so", four(api.MaxWindow), 9, "", api.ErrSize},
		{"of one segment, one more", four(api.MaxWindow + 1), 9, "", api.ErrWindow},
		{"of one segment, eight bytes, just so", eight(api.MaxWindow), 9, "", api.ErrSize},
		{"of one segment, eight bytes, one more", eight(api.MaxWindow + 1), 9, "", api.ErrWindow},
		{"the greatest size", eight(1<<64 - 1), 9, "", api.ErrWindow},
		{"a great size beside a window", magic + "\xc0\x00" + little(1<<63, 8) + raw(1, ""), 9, "", api.ErrSize},
	}
	for bit := 28; bit < 64; bit++ {
		rows = append(rows, row{"a bit of the size", eight(1 << bit), 9, "", api.ErrWindow})
	}
	hold(t, "P6", rows)
}

func TestWhichErrorOfAHeadComesFirst(t *testing.T) {
	hold(t, "P6", []row{
		{"head ahead of dict and window", magic + "\x09\xff\x01" + raw(1, ""), 9, "", api.ErrHead},
		{"head ahead of cut", magic + "\xff", 9, "", api.ErrHead},
		{"cut ahead of dict", magic + "\x81\x00\x01\x00\x00\x00", 9, "", api.ErrCut},
		{"cut ahead of window", magic + "\x41\xff\x00\x00", 9, "", api.ErrCut},
		{"cut within a dictionary's number", magic + "\x03\x00\x01\x01\x01", 9, "", api.ErrCut},
		{"dict ahead of window", magic + "\x01\xff\x01" + raw(1, ""), 9, "", api.ErrDict},
		{"dict ahead of window, of one segment", magic + "\xe1\x01" + little(1<<63, 8) + raw(1, ""), 9, "", api.ErrDict},
		{"dict ahead of cut blocks", magic + "\x01\x00\x01", 9, "", api.ErrDict},
		{"window ahead of cut blocks", magic + "\x00\xff", 9, "", api.ErrWindow},
		{"window ahead of a wrong block", magic + "\x00\xff\x07\x00\x00", 9, "", api.ErrWindow},
		{"window ahead of a block's error", magic + "\x00\x89" + same(1, "x", 200), 9, "", api.ErrWindow},
	})
}
