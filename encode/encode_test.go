package encode

import (
	"encoding/hex"
	"strings"
	"testing"

	"frames/api"
)

// TestKnownFrames: some frames to the byte, as the document's examples have
// them, and others in which what is free shows.
func TestKnownFrames(t *testing.T) {
	for _, c := range []struct {
		src               string
		lits, modes, reps int
		want              string // behind the first number
	}{
		{"", 0, 0, 0, "0000 150000 00 00"},
		{"abcabcab", 0, 21, 0, "0000 550000 18 616263 01 54 03 02 02 06"},
		{"aaaaaaaaaaa", 0, 21, 0, "0000 450000 08 61 01 54 01 02 07 04"},
		{"aaaaaaaaaaa", 1, 21, 1, "0000 450000 09 61 01 54 01 00 07 01"},
		{"\x00\x01\x01\x00", 2, 0, 0, "0000 3d0000 42c000 80 10 16 00"},
	} {
		ch := api.Choice{Block: 4096, Types: []int{2}, Lits: []int{c.lits}, Modes: []int{c.modes}, Search: 4, Reps: c.reps}
		want := "28b52ffd" + strings.ReplaceAll(c.want, " ", "")
		f, e := Encode(c.src, ch)
		if got := hex.EncodeToString([]byte(f)); got != want || e != api.OK {
			t.Errorf("Encode(%q, %+v) = %s, %d, want %s", c.src, ch, got, e, want)
		}
	}
}

// TestLeftBehind: a block that is not written as compressed in the end leaves
// nothing to those behind it.
func TestLeftBehind(t *testing.T) {
	ch := api.Choice{Block: 24, Types: []int{2}, Lits: []int{2, 4}, Modes: []int{42, 63}, Single: 1, Search: 4, Reps: 1}
	src := "abcdeabcdexyzabcdeabxyz," + "abcdeabcdexyzabcdeabxyz;"
	f, e := Encode(src, ch)
	// Most is 48; with the tree alone the first block would take more.
	first := "28b52ffd2030" + "c00000" + hex.EncodeToString([]byte(src[:24]))
	got := hex.EncodeToString([]byte(f))
	if e != api.OK || !strings.HasPrefix(got, first) {
		t.Fatalf("P13: %s, %d", got, e)
	}
	// One literal of kind 0, one sequence, and the usual tables.
	if rest := got[len(first)+6:]; !strings.HasPrefix(rest, "083b"+"0100") {
		t.Errorf("P13: the second block is %s", rest)
	}
}
