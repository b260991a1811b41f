package decode

import "frames/api"

// compressed reads what a compressed block says, and lets it come out.
func (d *decoding) compressed(body string) api.Errno {
	in := reader{rest: body}
	literals, e := d.literals(&in)
	if e != api.OK {
		return e
	}
	count, there := readCount(&in)
	if !there {
		return api.ErrSeqs
	}
	if count > 0 {
		return d.sequences(&in, count, literals)
	}
	if len(in.rest) > 0 {
		return api.ErrSeqs
	}
	return d.comeOut(literals, 1)
}

// readCount reads how many sequences there are. It is false if that is not
// there.
func readCount(in *reader) (int, bool) {
	first, there := in.number(1)
	if !there {
		return 0, false
	}
	if first < 128 {
		return int(first), true
	}
	if first < 255 {
		second, there := in.number(1)
		if !there {
			return 0, false
		}
		return int(first-128)<<8 + int(second), true
	}
	more, there := in.number(2)
	if !there {
		return 0, false
	}
	return 32512 + int(more), true
}
