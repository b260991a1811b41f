// Package encode writes compressed frames as they are asked for (P12 to P16).
package encode

import (
	"frames/api"
	"frames/checksum"
	"frames/layout"
	"frames/search"
)

// encoding is one call's work: nothing of it outlives the call.
type encoding struct {
	src    string
	ch     api.Choice
	most   int
	finder search.Finder
	out    writer
	kept   kept
}

// Encode writes a frame that says src.
func Encode(src string, ch api.Choice) (string, api.Errno) {
	if len(src) > api.MaxSrc {
		return "", api.ErrSrc
	}
	if !isChoice(ch) {
		return "", api.ErrChoice
	}
	window := windowOf(len(src), ch)
	x := encoding{src: src, ch: ch, most: layout.Most(window), kept: nothingKept()}
	x.finder = search.Open(src, int(window), ch.Search)
	x.writeHead()
	x.writeBlocks()
	x.writeEnd()
	return string(x.out.bytes), api.OK
}

// windowOf is the window of a frame that says so many bytes.
func windowOf(size int, ch api.Choice) uint64 {
	if ch.Single == 1 {
		return uint64(size)
	}
	return layout.Window(byte(ch.Window))
}

// The ways of a descriptor to tell the size.
const (
	shortSize = 0 // none, or one byte where the frame is of one segment
	wordSize  = 1 // two bytes
	longSize  = 2 // four bytes
)

// writeHead writes a frame's head (P6).
func (x *encoding) writeHead() {
	size := len(x.src)
	way := x.sizeWay(size)
	descriptor := way << layout.SizeShift
	if x.ch.Single == 1 {
		descriptor |= layout.SingleBit
	}
	if x.ch.Check == 1 {
		descriptor |= layout.CheckBit
	}
	x.out.number(layout.FrameMagic, 4)
	x.out.number(descriptor, 1)
	if x.ch.Single == 0 {
		x.out.number(x.ch.Window, 1)
	}
	switch way {
	case wordSize:
		x.out.number(size-layout.SizeBase, 2)
	case longSize:
		x.out.number(size, 4)
	default:
		x.out.number(size, x.ch.Single)
	}
}

// sizeWay is the shortest way to tell the size, if it is asked for.
func (x *encoding) sizeWay(size int) int {
	if x.ch.Single == 0 && x.ch.Size == 0 {
		return shortSize
	}
	if size >= layout.SizeBase {
		return wordSize
	}
	if x.ch.Single == 1 {
		return shortSize
	}
	return longSize
}

// writeEnd writes a frame's end (P11).
func (x *encoding) writeEnd() {
	if x.ch.Check == 0 {
		return
	}
	sum := checksum.Sum{}
	sum.Add([]byte(x.src))
	x.out.number(int(sum.Value()&0xFFFFFFFF), 4)
}
