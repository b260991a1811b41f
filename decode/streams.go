package decode

import (
	"frames/bits"
	"frames/layout"
	"frames/tree"
)

// readStreams reads the n literals that one stream says, or four.
func readStreams(t *tree.Tree, s string, n int, four bool) (string, bool) {
	if four {
		return fromFour(t, s, n)
	}
	return fromOne(t, s, n)
}

// fromOne reads n literals out of a stream. It is false if it is none or is
// not used up just so.
func fromOne(t *tree.Tree, s string, n int) (string, bool) {
	in, fit := bits.OpenStream(s)
	if !fit {
		return "", false
	}
	list := []byte{}
	for i := 0; i < n; i++ {
		symbol, there := t.Next(&in)
		if !there {
			return "", false
		}
		list = append(list, symbol)
	}
	if in.Left() > 0 {
		return "", false
	}
	return string(list), true
}

// fromFour reads n literals out of four streams. It is false if they are not
// there or one of them is not used up just so.
func fromFour(t *tree.Tree, s string, n int) (string, bool) {
	parts, there := cutInFour(s)
	if !there {
		return "", false
	}
	shares := layout.Quarters(n)
	said := ""
	for i := 0; i < 4; i++ {
		more, fit := fromOne(t, parts[i], shares[i])
		if !fit {
			return "", false
		}
		said += more
	}
	return said, true
}

// cutInFour cuts s where the three sizes at its begin say. It is false if not
// all of that is there.
func cutInFour(s string) ([4]string, bool) {
	in := reader{rest: s}
	sizes := [3]int{}
	for i := 0; i < 3; i++ {
		size, there := in.number(2)
		if !there {
			return [4]string{}, false
		}
		sizes[i] = int(size)
	}
	parts := [4]string{}
	for i := 0; i < 3; i++ {
		part, there := in.take(sizes[i])
		if !there {
			return [4]string{}, false
		}
		parts[i] = part
	}
	parts[3] = in.rest
	return parts, true
}
