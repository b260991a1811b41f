package decode

import (
	"frames/api"
	"frames/layout"
)

// blocks reads a frame's blocks up to the last one.
func (d *decoding) blocks() api.Errno {
	last := false
	for !last {
		start, there := d.in.number(3)
		if !there {
			return api.ErrCut
		}
		e := d.block(int(start>>1&3), int(start>>3))
		if e != api.OK {
			return e
		}
		last = start&1 != 0
	}
	return api.OK
}

// block reads the bytes of a block, by its type and its number n, and lets
// what they say come out.
func (d *decoding) block(kind int, n int) api.Errno {
	if kind == layout.NoType || n > d.now.most {
		return api.ErrBlock
	}
	width := n
	if kind == layout.SameType {
		width = 1
	}
	body, there := d.in.take(width)
	if !there {
		return api.ErrCut
	}
	d.now.given = 0
	switch kind {
	case layout.RawType:
		return d.comeOut(body, 1)
	case layout.SameType:
		return d.comeOut(body, n)
	}
	return d.compressed(body)
}

// comeOut lays part behind what came out so far, so many times.
func (d *decoding) comeOut(part string, times int) api.Errno {
	e := d.makeRoom(len(part) * times)
	if e != api.OK {
		return e
	}
	for i := 0; i < times; i++ {
		d.out = append(d.out, part...)
	}
	return api.OK
}

// makeRoom is asked ahead of bytes that come out, so that no more than the
// limit is ever laid out.
func (d *decoding) makeRoom(n int) api.Errno {
	if n > d.now.most-d.now.given {
		return api.ErrBlock
	}
	if n > d.limit-len(d.out) {
		return api.ErrLimit
	}
	d.now.given += n
	return api.OK
}
