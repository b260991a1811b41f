package promises

import (
	"testing"

	"frames/api"
)

func TestChecksum(t *testing.T) {
	head := magic + "\x04\x00"
	rows := []row{
		{"by hand", magic + "\x24\x03" + raw(1, "abc") + "\x99\x09\x77\xad", 100, "abc", api.OK},
		{"the higher half", magic + "\x24\x03" + raw(1, "abc") + "\x99\x09\xad\xf5", 100, "", api.ErrCheck},
		{"the highest byte first", magic + "\x24\x03" + raw(1, "abc") + "\xad\x77\x09\x99", 100, "", api.ErrCheck},
		{"of no bytes", head + raw(1, "") + "\x99\xe9\xd8\x51", 100, "", api.OK},
		{"of several blocks", head + raw(0, "ab") + same(0, "y", 60) + raw(1, "d") + check("ab"+ys(60)+"d"), 100, "ab" + ys(60) + "d", api.OK},
		{"of a copied byte alone", head + same(1, "y", 60) + check("y"), 100, "", api.ErrCheck},
		{"without one", open(0) + raw(1, "abc") + check("abc"), 100, "", api.ErrMagic},
	}
	for bit := range 32 {
		rows = append(rows, row{"a bit turned", head + raw(1, "abc") + little(0xAD770999^1<<bit, 4), 100, "", api.ErrCheck})
	}
	for n := 1; n <= 4; n++ {
		rows = append(rows, row{"cut", cut(head+raw(1, "abc")+check("abc"), n), 100, "", api.ErrCut})
	}
	for n := range 140 {
		s := some(n)
		rows = append(rows, row{"each length", head + raw(1, s) + check(s), 140, s, api.OK})
	}
	hold(t, "P11", rows)
}

// TestEndOfAFrameAlone: neither size nor checksum counts what other frames gave.
func TestEndOfAFrameAlone(t *testing.T) {
	abc := magic + "\x24\x03" + raw(1, "abc") + check("abc")
	de := magic + "\x24\x02" + raw(1, "de") + check("de")
	hold(t, "P11", []row{
		{"two frames", abc + de, 100, "abcde", api.OK},
		{"a frame passed over between", abc + passed(1, "zz") + de, 100, "abcde", api.OK},
		{"the checksum of both", abc + magic + "\x24\x02" + raw(1, "de") + check("abcde"), 100, "", api.ErrCheck},
		{"the size of both", abc + magic + "\x80\x00" + little(5, 4) + raw(1, "de"), 100, "", api.ErrSize},
		{"the size of the first", abc + magic + "\x80\x00" + little(3, 4) + raw(1, "de"), 100, "", api.ErrSize},
		{"a checksum in the second alone", open(0) + raw(1, "abc") + de, 100, "abcde", api.OK},
		{"a checksum in the first alone", abc + open(0) + raw(1, "de"), 100, "abcde", api.OK},
	})
}

func TestSize(t *testing.T) {
	hold(t, "P11", []row{
		{"just so", magic + "\x20\x03" + raw(1, "abc"), 100, "abc", api.OK},
		{"in several blocks", magic + "\x20\x03" + raw(0, "ab") + same(1, "c", 1), 100, "abc", api.OK},
		{"one more was told", magic + "\x20\x04" + raw(1, "abc"), 100, "", api.ErrSize},
		{"one less was told", magic + "\x20\x02" + raw(0, "ab") + raw(1, "c"), 100, "", api.ErrSize},
		{"nothing comes out", magic + "\x20\x01" + raw(1, ""), 100, "", api.ErrSize},
		{"256 of two bytes", magic + "\x60\x00\x00" + raw(1, ""), 100, "", api.ErrSize},
	})
}

func TestWhichErrorOfAnEndComesFirst(t *testing.T) {
	told := magic + "\x24\x04" + raw(1, "abc")
	hold(t, "P11", []row{
		{"size ahead of a cut checksum", told, 100, "", api.ErrSize},
		{"size ahead of a checksum that is cut within", told + "\x99\x09", 100, "", api.ErrSize},
		{"size ahead of check", told + "nope", 100, "", api.ErrSize},
		{"size with a good checksum", told + check("abc"), 100, "", api.ErrSize},
		{"check ahead of the next frame's error", magic + "\x04\x00" + raw(1, "abc") + "nope" + "wxyz", 100, "", api.ErrCheck},
		{"size ahead of the next frame's error", magic + "\x20\x04" + raw(1, "abc") + "wxyz", 100, "", api.ErrSize},
		{"a checksum is no next frame", magic + "\x04\x00" + raw(1, "abc") + magic, 100, "", api.ErrCheck},
	})
}

// TestFramesByHand: the document's examples.
func TestFramesByHand(t *testing.T) {
	hold(t, "Examples", []row{
		{"none", "", 100, "", api.OK},
		{"empty", magic + "\x20\x00\x01\x00\x00", 100, "", api.OK},
		{"abc", magic + "\x20\x03\x19\x00\x00abc", 100, "abc", api.OK},
		{"xxxxx", magic + "\x00\x00\x2b\x00\x00x", 100, "xxxxx", api.OK},
		{"with a checksum", magic + "\x24\x03\x19\x00\x00abc\x99\x09\x77\xad", 100, "abc", api.OK},
		{"with another checksum", magic + "\x24\x03\x19\x00\x00abc\x99\x09\xad\xf5", 100, "", api.ErrCheck},
		{"F", magic, 100, "", api.ErrCut},
		{"three bytes", "\x28\xb5\x2f", 100, "", api.ErrCut},
		{"another number", "\x28\xb5\x2f\xfc", 100, "", api.ErrMagic},
		{"bit 3", magic + "\x28\x00\x01\x00\x00", 100, "", api.ErrHead},
		{"a dictionary", magic + "\x21\x01\x00\x01\x00\x00", 100, "", api.ErrDict},
		{"no dictionary", magic + "\x21\x00\x00\x01\x00\x00", 100, "", api.OK},
		{"a great window", magic + "\x00\xff\x01\x00\x00", 100, "", api.ErrWindow},
		{"type 3", magic + "\x20\x00\x07\x00\x00", 100, "", api.ErrBlock},
		{"above the window of 2", magic + "\x20\x02\x19\x00\x00abc", 100, "", api.ErrBlock},
		{"another size", magic + "\x20\x04\x19\x00\x00abc", 100, "", api.ErrSize},
		{"three literals, then five bytes from three back", magic + "\x00\x00\x55\x00\x00\x18abc\x01\x54\x03\x02\x02\x06", 100, "abcabcab", api.OK},
		{"one literal, ten bytes from one back", magic + "\x00\x00\x45\x00\x00\x08a\x01\x54\x01\x02\x07\x04", 100, "aaaaaaaaaaa", api.OK},
		{"the first of the last three", magic + "\x00\x00\x4d\x00\x00\x10ab\x01\x54\x02\x00\x00\x01", 100, "abbbb", api.OK},
		{"no last table", magic + "\x00\x00\x1d\x00\x00\x00\x01\xfc", 100, "", api.ErrTable},
		{"too far back", magic + "\x00\x00\x4d\x00\x00\x10ab\x01\x54\x02\x01\x00\x02", 100, "", api.ErrOffset},
		{"a bit too many", magic + "\x00\x00\x4d\x00\x00\x10ab\x01\x54\x02\x00\x00\x02", 100, "", api.ErrStream},
		{"four literals in one stream", magic + "\x00\x00\x3d\x00\x00\x42\xc0\x00\x80\x10\x16\x00", 100, "\x00\x01\x01\x00", api.OK},
		{"no literals' head", magic + "\x00\x00\x05\x00\x00", 100, "", api.ErrLits},
		{"half a number of sequences", magic + "\x00\x00\x15\x00\x00\x00\x80", 100, "", api.ErrSeqs},
		{"passed over", "\x55\x2a\x4d\x18\x03\x00\x00\x00abc", 100, "", api.OK},
	})
}
