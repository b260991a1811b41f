package decode

import "frames/api"

// The types of blocks (P7); type 2, compressed, is not read yet.
const (
	rawType  = 0
	sameType = 1
	noType   = 3
)

// blocks reads a frame's blocks up to the last one.
func (d *decoding) blocks(most int) api.Errno {
	last := false
	for !last {
		start, there := d.in.number(3)
		if !there {
			return api.ErrCut
		}
		e := d.block(int(start>>1&3), int(start>>3), most)
		if e != api.OK {
			return e
		}
		last = start&1 != 0
	}
	return api.OK
}

// block reads the bytes of a block, by its type and its number n, and lets
// what they say come out.
func (d *decoding) block(kind int, n int, most int) api.Errno {
	if kind == noType || n > most {
		return api.ErrBlock
	}
	width := n
	if kind == sameType {
		width = 1
	}
	body, there := d.in.take(width)
	if !there {
		return api.ErrCut
	}
	switch kind {
	case rawType:
		return d.comeOut(body, 1)
	case sameType:
		return d.comeOut(body, n)
	}
	return api.ErrBlock
}

// comeOut lays part behind what came out so far, so many times. The limit is
// looked at first, so that no more than that is ever laid out.
func (d *decoding) comeOut(part string, times int) api.Errno {
	if len(part)*times > d.limit-len(d.out) {
		return api.ErrLimit
	}
	for i := 0; i < times; i++ {
		d.out = append(d.out, part...)
	}
	return api.OK
}
