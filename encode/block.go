package encode

import "frames/layout"

// writeBlocks cuts the content into blocks and writes them (P13).
func (x *encoding) writeBlocks() {
	width := x.most
	if x.ch.Block < width {
		width = x.ch.Block
	}
	count := blockCount(len(x.src), width)
	for k := 0; k < count; k++ {
		begin := k * width
		end := begin + width
		last := 0
		if k == count-1 {
			end = len(x.src)
			last = 1
		}
		x.writeBlock(k, begin, end, last)
	}
}

// blockCount is how many blocks of such a width say so many bytes. Nothing is
// said by one block, whose width may be 0.
func blockCount(size int, width int) int {
	if size == 0 || width < 1 {
		return 1
	}
	return (size + width - 1) / width
}

// writeBlock writes block k, which says what stands from begin up to end. last
// is 1 if it is the last one.
func (x *encoding) writeBlock(k int, begin int, end int, last int) {
	content := x.src[begin:end]
	switch asked(x.ch.Types, k) {
	case layout.SameType:
		if isSame(content) {
			x.writeBlockHead(last, layout.SameType, len(content))
			x.out.text(content[:1])
			return
		}
	case layout.CompressedType:
		body, next := x.compressed(k, begin, end)
		if len(body) <= x.most {
			x.writeBlockHead(last, layout.CompressedType, len(body))
			x.out.text(body)
			x.kept = next
			return
		}
	}
	x.writeBlockHead(last, layout.RawType, len(content))
	x.out.text(content)
}

// writeBlockHead writes the number with which a block begins.
func (x *encoding) writeBlockHead(last int, kind int, n int) {
	x.out.number(last|kind<<1|n<<3, 3)
}

// isSame: there is a byte, and all are the same.
func isSame(s string) bool {
	for i := 0; i < len(s); i++ {
		if s[i] != s[0] {
			return false
		}
	}
	return len(s) > 0
}
