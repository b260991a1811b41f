// Package codes tells what the codes of sequences stand for (P10).
package codes

import "frames/api"

// The codes below these tell one value each, with no bits more.
const (
	plainLiterals = 16
	plainMatches  = 32
)

// The bits more of the codes from there on.
var (
	moreLiterals = [20]int{1, 1, 1, 1, 2, 2, 3, 3, 4, 6, 7, 8, 9, 10, 11, 12, 13, 14, 15, 16}
	moreMatches  = [21]int{1, 1, 1, 1, 2, 2, 3, 3, 4, 4, 5, 7, 8, 9, 10, 11, 12, 13, 14, 15, 16}
)

// More is how many bits more tell the value of a code, which must be one of
// the table t.
func More(t int, code int) int {
	if t == api.OF {
		return code
	}
	if t == api.LL {
		i := code - plainLiterals
		if i < 0 || i >= len(moreLiterals) {
			return 0
		}
		return moreLiterals[i]
	}
	i := code - plainMatches
	if i < 0 || i >= len(moreMatches) {
		return 0
	}
	return moreMatches[i]
}

// Least is the least value of a code, which must be one of the table t.
func Least(t int, code int) int {
	least := first(t)
	for c := 0; c < code; c++ {
		least += 1 << More(t, c)
	}
	return least
}

// first is the least value of all.
func first(t int) int {
	switch t {
	case api.LL:
		return 0
	case api.OF:
		return 1
	}
	return 3
}

// Of is the code of the table t among whose values v is.
func Of(t int, v int) int {
	top := api.Top(t)
	end := first(t)
	for code := 0; code < top; code++ {
		end += 1 << More(t, code)
		if v < end {
			return code
		}
	}
	return top
}
