// Package decode tells what compressed frames say (P5 to P11).
package decode

import (
	"frames/api"
	"frames/checksum"
	"frames/distance"
	"frames/layout"
	"frames/table"
	"frames/tree"
)

// passMagic is the first of 16 numbers with which begins what is passed over.
const passMagic = 0x184D2A50

// decoding is one call's work: nothing of it outlives the call.
type decoding struct {
	in    reader
	limit int
	out   []byte // what came out so far, of all frames
	now   frame
}

// frame is what is known of the frame that is being read.
type frame struct {
	window   int
	most     int
	begin    int       // where in out it begins
	given    int       // what its last block gave so far
	tree     tree.Tree // the last one
	hasTree  bool
	tables   [3]table.Table // the last ones, by api.LL, api.OF and api.ML
	hasTable [3]bool
	last     distance.Last
}

// Decode tells what the bytes of s say. It never lays out more than limit
// bytes for it, so it has no need of the slack.
func Decode(s string, limit int, slack int) (string, api.Errno) {
	if len(s) > api.MaxIn || limit < 0 || limit > api.MaxOut || slack < 0 || slack > api.MaxSlack {
		return "", api.ErrArg
	}
	d := decoding{in: reader{rest: s}, limit: limit, out: make([]byte, 0, limit)}
	for len(d.in.rest) > 0 {
		e := d.next()
		if e != api.OK {
			return "", e
		}
	}
	return string(d.out), api.OK
}

// next reads a frame, or what is passed over.
func (d *decoding) next() api.Errno {
	magic, there := d.in.number(4)
	if !there {
		return api.ErrCut
	}
	if magic == layout.FrameMagic {
		return d.readFrame()
	}
	if magic >= passMagic && magic < passMagic+16 {
		return d.passOver()
	}
	return api.ErrMagic
}

// passOver reads bytes that say nothing.
func (d *decoding) passOver() api.Errno {
	n, there := d.in.number(4)
	if !there {
		return api.ErrCut
	}
	_, there = d.in.take(int(n))
	if !there {
		return api.ErrCut
	}
	return api.OK
}

// readFrame reads what stands behind a frame's first number.
func (d *decoding) readFrame() api.Errno {
	h, e := readHead(&d.in)
	if e != api.OK {
		return e
	}
	d.now = frame{window: int(h.window), most: layout.Most(h.window), begin: len(d.out), last: distance.Begin()}
	e = d.blocks()
	if e != api.OK {
		return e
	}
	return d.end(h, d.out[d.now.begin:])
}

// end reads a frame's end (P11) and holds the frame's content against it.
func (d *decoding) end(h head, content []byte) api.Errno {
	if h.told && h.size != uint64(len(content)) {
		return api.ErrSize
	}
	if !h.check {
		return api.OK
	}
	check, there := d.in.number(4)
	if !there {
		return api.ErrCut
	}
	sum := checksum.Sum{}
	sum.Add(content)
	if check != sum.Value()&0xFFFFFFFF {
		return api.ErrCheck
	}
	return api.OK
}
