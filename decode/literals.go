package decode

import (
	"frames/api"
	"frames/layout"
	"frames/tree"
)

// litHead is what literals say of themselves.
type litHead struct {
	kind  int
	size  int // how many literals
	width int // how many bytes tell them
	four  bool
}

// literals reads the literals of a compressed block.
func (d *decoding) literals(in *reader) (string, api.Errno) {
	h, there := readLitHead(in)
	if !there || h.size > d.now.most || h.four && h.size < layout.LeastInFour {
		return "", api.ErrLits
	}
	body, there := in.take(h.width)
	if !there {
		return "", api.ErrLits
	}
	switch h.kind {
	case layout.RawKind:
		return body, api.OK
	case layout.SameKind:
		return again(body, h.size), api.OK
	}
	return d.coded(h, body)
}

// readLitHead reads the head of literals. It is false if that is not there.
func readLitHead(in *reader) (litHead, bool) {
	if len(in.rest) == 0 {
		return litHead{}, false
	}
	kind := int(in.rest[0] & 3)
	form := int(in.rest[0] >> 2 & 3)
	if kind == layout.TreeKind || kind == layout.AgainKind {
		return readCodedHead(in, kind, form)
	}
	x, there := in.number(plainWidth(form))
	if !there {
		return litHead{}, false
	}
	size := int(x >> 4)
	if form == 0 || form == 2 {
		size = int(x >> 3)
	}
	if kind == layout.SameKind {
		return litHead{kind: kind, size: size, width: 1}, true
	}
	return litHead{kind: kind, size: size, width: size}, true
}

// plainWidth: how many bytes the head of literals without codes has.
func plainWidth(form int) int {
	switch form {
	case 1:
		return 2
	case 3:
		return 3
	}
	return 1
}

// readCodedHead reads the head of literals that are told by codes: behind four
// bits it is two numbers that are equally wide.
func readCodedHead(in *reader, kind int, form int) (litHead, bool) {
	bytes := codedWidth(form)
	x, there := in.number(bytes)
	if !there {
		return litHead{}, false
	}
	half := (8*bytes - 4) / 2
	size := int(x>>4) & (1<<half - 1)
	width := int(x >> (4 + half))
	return litHead{kind: kind, size: size, width: width, four: form != 0}, true
}

// codedWidth: how many bytes the head of literals with codes has.
func codedWidth(form int) int {
	switch form {
	case 2:
		return 4
	case 3:
		return 5
	}
	return 3
}

// again is part, n times.
func again(part string, n int) string {
	list := []byte{}
	for i := 0; i < n; i++ {
		list = append(list, part...)
	}
	return string(list)
}

// coded reads literals that are told by codes.
func (d *decoding) coded(h litHead, body string) (string, api.Errno) {
	streams := body
	if h.kind == layout.TreeKind {
		t, rest, fit := tree.Read(body)
		if !fit {
			return "", api.ErrTree
		}
		d.now.tree = t
		d.now.hasTree = true
		streams = rest
	}
	if !d.now.hasTree {
		return "", api.ErrTree
	}
	said, fit := readStreams(&d.now.tree, streams, h.size, h.four)
	if !fit {
		return "", api.ErrStream
	}
	return said, api.OK
}
