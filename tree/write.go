package tree

import (
	"frames/api"
	"frames/bits"
	"frames/tally"
)

// MaxOutright is the greatest symbol of a tree whose weights are told outright:
// the first byte has room for so many, and the last symbol's is not told.
const MaxOutright = 128

// Weigh makes weights for the symbols of a tally, of which there must be two
// different ones. Those that came have a weight above 0, the others 0; the last
// one's is what the others leave over.
//
// Each symbol is given a share of the numbers of MaxBits bits that is a power
// of two. First one number each, and of the rest by how often it came, rounded
// down; then shares grow till nothing is left.
func Weigh(met *tally.Tally) []int {
	shares, left := firstShares(met)
	for left > 0 {
		symbol := neediest(met.Often, shares, left)
		if symbol < 0 {
			return nil
		}
		left -= shares[symbol]
		shares[symbol] *= 2
	}
	return byShares(shares)
}

// firstShares is shares that are no greater than there is room for, and how
// many numbers they leave over.
func firstShares(met *tally.Tally) ([]int, int) {
	total := met.Total()
	left := 1 << api.MaxBits
	spare := left - met.Different()
	shares := []int{}
	for _, n := range met.Often {
		share := 0
		if n > 0 {
			share = numbers(widthOf(1 + spare*n/total))
		}
		shares = append(shares, share)
		left -= share
	}
	return shares, left
}

// neediest is the symbol that came most often for its share, of those whose
// share can grow to the double. There always is one: what is left is a multiple
// of the least share.
func neediest(often []int, shares []int, left int) int {
	best := -1
	for symbol, share := range shares {
		if share == 0 || share > left {
			continue
		}
		if best < 0 || often[symbol]*shares[best] > often[best]*share {
			best = symbol
		}
	}
	return best
}

// byShares is the weights of shares. The least share has weight 1, so that the
// codes are no longer than they need be.
func byShares(shares []int) []int {
	least := 1 << api.MaxBits
	for _, share := range shares {
		if share > 0 && share < least {
			least = share
		}
	}
	weights := []int{}
	for _, share := range shares {
		weights = append(weights, widthOf(share/least))
	}
	return weights
}

// Outright is the bytes of a tree by the weights that it tells, MaxOutright at
// most.
func Outright(told []int) string {
	list := []byte{byte(outright - 1 + len(told))}
	for i := 0; i < len(told); i += 2 {
		pair := told[i] << 4
		if i+1 < len(told) {
			pair |= told[i+1]
		}
		list = append(list, byte(pair))
	}
	return string(list)
}

// Put lays down the code of a symbol that has one.
func (t *Tree) Put(symbol byte, out *bits.Writer) {
	weight := t.weights[symbol]
	if weight < 1 {
		return
	}
	out.Add(t.firsts[symbol]>>(weight-1), t.log+1-weight)
}
