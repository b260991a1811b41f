package encode

import "frames/api"

// The greatest members of a choice's lists, and its greatest byte of a window
// (P12).
const (
	topType   = 2
	topLits   = 5
	topModes  = 63
	topWindow = 63
)

// isChoice: all that is asked can be asked.
func isChoice(ch api.Choice) bool {
	lists := isList(ch.Types, topType) && isList(ch.Lits, topLits) && isList(ch.Modes, topModes)
	numbers := ch.Block >= 1 && upTo(ch.Window, topWindow) && upTo(ch.Search, api.MaxSearch)
	switches := upTo(ch.Single, 1) && upTo(ch.Size, 1) && upTo(ch.Check, 1) && upTo(ch.Reps, 1)
	return lists && numbers && switches
}

// isList: it has members, not too many, and none is above top.
func isList(list []int, top int) bool {
	if len(list) < 1 || len(list) > api.MaxList {
		return false
	}
	for _, x := range list {
		if !upTo(x, top) {
			return false
		}
	}
	return true
}

// upTo: x is 0 to top.
func upTo(x int, top int) bool {
	return x >= 0 && x <= top
}

// asked is what a list asks of block k: lists go round.
func asked(list []int, k int) int {
	if len(list) == 0 || k < 0 {
		return 0
	}
	return list[k%len(list)]
}
