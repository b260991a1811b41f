package codes

import (
	"frames/api"
	"frames/table"
)

// Usual is the head of the table t where a block tells none of its own.
func Usual(t int) table.Head {
	switch t {
	case api.LL:
		return table.Head{Accuracy: 6, Counts: usualLiterals()}
	case api.OF:
		return table.Head{Accuracy: 5, Counts: usualOffsets()}
	}
	return table.Head{Accuracy: 6, Counts: usualMatches()}
}

func usualLiterals() []int {
	return []int{
		4, 3, 2, 2, 2, 2, 2, 2, 2, 2, 2, 2, 2, 1, 1, 1,
		2, 2, 2, 2, 2, 2, 2, 2, 2, 3, 2, 1, 1, 1, 1, 1,
		table.Rare, table.Rare, table.Rare, table.Rare,
	}
}

func usualOffsets() []int {
	counts := []int{1, 1, 1, 1, 1, 1, 2, 2, 2}
	counts = again(counts, 1, 15)
	return again(counts, table.Rare, 5)
}

func usualMatches() []int {
	counts := []int{1, 4, 3, 2, 2, 2, 2, 2, 2}
	counts = again(counts, 1, 37)
	return again(counts, table.Rare, 7)
}

// again is counts and n times one more behind them.
func again(counts []int, one int, n int) []int {
	for i := 0; i < n; i++ {
		counts = append(counts, one)
	}
	return counts
}
