// Package layout holds what reading and writing share of the format.
package layout

import "frames/api"

// FrameMagic is the number with which a frame begins (P6).
const FrameMagic = 0xFD2FB528

// The bits of a descriptor that stand alone (P6).
const (
	CheckBit    = 1 << 2
	ReservedBit = 1 << 3
	SingleBit   = 1 << 5
)

// SizeShift is where a descriptor tells how wide the size is.
const SizeShift = 6

// SizeBase: one byte tells the sizes below it, so two bytes begin there.
const SizeBase = 256

// The types of blocks (P7).
const (
	RawType        = 0
	SameType       = 1
	CompressedType = 2
	NoType         = 3
)

// The kinds of literals (P8).
const (
	RawKind   = 0
	SameKind  = 1
	TreeKind  = 2 // told by codes, and the tree stands ahead of them
	AgainKind = 3 // told by the codes of the last tree
)

// LeastInFour: of fewer literals the fourth stream would say less than none.
const LeastInFour = 6

// The modes of tables (P10).
const (
	UsualMode = 0
	OneMode   = 1
	HeadMode  = 2
	AgainMode = 3
)

// Window is the one that the byte w tells.
func Window(w byte) uint64 {
	p := uint64(1) << (10 + w/8)
	return p + p/8*uint64(w%8)
}

// Most: no block of a frame with this window has or gives more bytes.
func Most(window uint64) int {
	if window < api.MaxBlock {
		return int(window)
	}
	return api.MaxBlock
}

// Quarters is how many literals each of four streams says, of n that are at
// least LeastInFour.
func Quarters(n int) [4]int {
	quarter := (n + 3) / 4
	return [4]int{quarter, quarter, quarter, n - 3*quarter}
}

// ModeShift is where the byte of the modes tells that of the table t.
func ModeShift(t int) int {
	switch t {
	case api.LL:
		return 6
	case api.OF:
		return 4
	}
	return 2
}
