package decode

import (
	"frames/api"
	"frames/layout"
)

// head is what a frame says of itself ahead of its blocks.
type head struct {
	window uint64
	told   bool   // the size is told
	size   uint64 // of eight bytes, so it may be more than an int holds
	check  bool   // a checksum stands at the end
}

// readHead reads what stands behind a frame's first number. All of it must be
// there before any of it but the descriptor is found fault with.
func readHead(in *reader) (head, api.Errno) {
	descriptor, there := in.number(1)
	if !there {
		return head{}, api.ErrCut
	}
	if descriptor&layout.ReservedBit != 0 {
		return head{}, api.ErrHead
	}
	w, there := in.number(windowWidth(descriptor))
	if !there {
		return head{}, api.ErrCut
	}
	dictionary, there := in.number(dictionaryWidth(descriptor))
	if !there {
		return head{}, api.ErrCut
	}
	size, there := in.number(sizeWidth(descriptor))
	if !there {
		return head{}, api.ErrCut
	}
	if dictionary != 0 {
		return head{}, api.ErrDict
	}
	h := makeHead(descriptor, w, size)
	if h.window > api.MaxWindow {
		return head{}, api.ErrWindow
	}
	return h, api.OK
}

// makeHead tells what the fields mean, as they were read.
func makeHead(descriptor uint64, w uint64, size uint64) head {
	width := sizeWidth(descriptor)
	if width == 2 {
		size += layout.SizeBase
	}
	h := head{told: width > 0, size: size, check: descriptor&layout.CheckBit != 0}
	if descriptor&layout.SingleBit != 0 {
		h.window = size
	} else {
		h.window = layout.Window(byte(w))
	}
	return h
}

// windowWidth: how many bytes tell the window.
func windowWidth(descriptor uint64) int {
	if descriptor&layout.SingleBit != 0 {
		return 0
	}
	return 1
}

// dictionaryWidth: how many bytes name a dictionary.
func dictionaryWidth(descriptor uint64) int {
	switch descriptor & 3 {
	case 0:
		return 0
	case 1:
		return 1
	case 2:
		return 2
	}
	return 4
}

// sizeWidth: how many bytes tell the size.
func sizeWidth(descriptor uint64) int {
	switch descriptor >> layout.SizeShift {
	case 0:
		if descriptor&layout.SingleBit != 0 {
			return 1
		}
		return 0
	case 1:
		return 2
	case 2:
		return 4
	}
	return 8
}
