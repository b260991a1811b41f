package promises

import (
	"math/rand"
	"slices"
	"strings"
	"testing"

	"frames/api"
	"frames/frames"
)

// symbols is a text that holds each symbol that has a code, several times.
func symbols(told []int) string {
	s := ""
	for k := range 3 {
		for i, code := range codesOf(told) {
			if code != "" {
				s += strings.Repeat(string([]byte{byte(i)}), (i+k)%3+1)
			}
		}
	}
	return s
}

// withTree is a frame that says text by a tree that is told so.
func withTree(tree string, told []int, text string) string {
	if len(text) < 6 {
		return wide + lits(1, coded(2, 0, len(text), tree+one(told, text)))
	}
	return wide + lits(1, coded(2, 3, len(text), tree+four(told, text)))
}

// treeAlone is a frame of a tree that says nothing: with it nothing is wrong
// but perhaps the tree.
func treeAlone(tree string) string {
	return wide + lits(1, coded(2, 0, 0, tree+"\x01"))
}

func times(n, w int) []int {
	return slices.Repeat([]int{w}, n)
}

// goodTrees are weights that are those of trees; 128 of them and fewer.
func goodTrees() [][]int {
	return [][]int{
		pair,
		steps,
		ladder,
		{0, 1},
		{0, 0, 0, 1},
		{1, 0, 0, 0, 0},
		{1, 1},
		{1, 1, 2},
		{2, 1},
		{1, 2},
		{1, 1, 1},
		{1, 3, 1, 2},
		{0, 4, 0, 2, 0, 3, 1},
		{2, 2, 0, 1, 2},
		slices.Concat(times(50, 0), steps),
		times(127, 1),
		times(128, 1),
		slices.Concat(times(127, 0), []int{1}),
		slices.Concat(times(126, 0), []int{1}),
		slices.Concat(ladder, times(100, 0)),
		slices.Concat(ladder, times(117, 0)),
		slices.Concat(times(100, 0), ladder),
		slices.Concat([]int{8}, times(127, 1)),
	}
}

func TestWeightsToldOutright(t *testing.T) {
	var rows []row
	for _, told := range goodTrees() {
		tree := outright(told)
		text := symbols(told)
		if len(told)%2 == 1 {
			// The half that is left over says nothing.
			turned := []byte(tree)
			turned[len(turned)-1] |= 15
			rows = append(rows, row{"the last half", withTree(string(turned), told, text), api.MaxOut, text, api.OK})
		}
		rows = append(rows, row{"weights", withTree(tree, told, text), api.MaxOut, text, api.OK})
		for n := range len(tree) {
			rows = append(rows, row{"bytes are not there", wide + lits(1, coded(2, 0, 0, tree[:n])), 99, "", api.ErrTree})
		}
		rows = append(rows, row{"no stream behind it", wide + lits(1, coded(2, 0, 0, tree)), 99, "", api.ErrStream})
		rows = append(rows, row{"a stream of nothing behind it", treeAlone(tree), 99, "", api.OK})
	}
	hold(t, "P8", rows)
}

// TestCodes: the codes, as the document lays them, by hand.
func TestCodes(t *testing.T) {
	ask := func(told []int, n int, bits string) string {
		return wide + lits(1, coded(2, 0, n, outright(told)+backward(bits)))
	}
	hold(t, "P8", []row{
		{"by hand", magic + "\x00\x00\x3d\x00\x00\x42\xc0\x00\x80\x10\x16\x00", 100, "\x00\x01\x01\x00", api.OK},
		{"two symbols", ask(pair, 3, "0"+"1"+"1"), 9, "\x00\x01\x01", api.OK},
		{"the lesser weights first", ask(steps, 4, "1"+"01"+"000"+"001"), 9, "\x00\x01\x02\x03", api.OK},
		{"of one weight by their numbers", ask([]int{1, 1, 1}, 4, "00"+"01"+"10"+"11"), 9, "\x00\x01\x02\x03", api.OK},
		{"the last symbol has the greatest weight", ask([]int{1, 1}, 3, "00"+"01"+"1"), 9, "\x00\x01\x02", api.OK},
		{"the last symbol has the least weight", ask([]int{2, 1}, 3, "1"+"00"+"01"), 9, "\x00\x01\x02", api.OK},
		{"symbols that have none", ask([]int{0, 2, 0, 0, 1, 0}, 3, "1"+"00"+"01"), 9, "\x01\x04\x06", api.OK},
		{"the last symbol among others of its weight", ask([]int{2, 1, 1, 3}, 0, ""), 9, "", api.OK},
		{"of two weights", ask([]int{2, 1, 2, 1, 1}, 6, "01"+"000"+"10"+"001"+"110"+"111"), 9, "", api.ErrStream},
		{"of two weights, laid", ask([]int{2, 1, 2, 1, 1}, 6, "10"+"000"+"11"+"001"+"010"+"011"), 9, "\x00\x01\x02\x03\x04\x05", api.OK},
		{"the longest codes", ask(ladder, 3, "00000000000"+"00000000001"+"1"), 9, "\x0a\x0b\x00", api.OK},
	})
}

func TestWeightsOfNoTree(t *testing.T) {
	rows := []row{
		{"sum is 0", treeAlone(outright([]int{0})), 99, "", api.ErrTree},
		{"sum is 0, several", treeAlone(outright(times(128, 0))), 99, "", api.ErrTree},
		{"no such k", treeAlone(outright([]int{3, 1})), 99, "", api.ErrTree},
		{"no such k, 1 1 1 1 1", treeAlone(outright(times(5, 1))), 99, "", api.ErrTree},
		{"none of weight 1", treeAlone(outright([]int{2})), 99, "", api.ErrTree},
		{"none of weight 1, several", treeAlone(outright([]int{4, 3, 2})), 99, "", api.ErrTree},
		{"log is 12", treeAlone(outright(append([]int{11, 11}, ladder...))), 99, "", api.ErrTree},
		{"log is 12, by one bit", treeAlone(outright(append([]int{1}, ladder...))), 99, "", api.ErrTree},
		{"log is 11", treeAlone(outright(ladder)), 99, "", api.OK},
	}
	for w := 2; w < 16; w++ {
		rows = append(rows, row{"one weight", treeAlone(outright([]int{w})), 99, "", api.ErrTree})
	}
	for w := 12; w < 16; w++ {
		for i := range 4 {
			told := []int{1, 1, 2, 1}
			told[i] = w
			rows = append(rows, row{"a weight above 11", treeAlone(outright(told)), 99, "", api.ErrTree})
			rows = append(rows, row{"all but one below 11", treeAlone(outright(append(told, ladder...))), 99, "", api.ErrTree})
			// What is left over would be the weight of a last symbol.
			whole := []int{}
			for k := w; k > 0; k-- {
				whole = append(whole, k)
			}
			rows = append(rows, row{"a longer ladder", treeAlone(outright(whole)), 99, "", api.ErrTree})
		}
	}
	hold(t, "P8", rows)
}

// TestAllSmallTrees: all that one, two and three weights can be.
func TestAllSmallTrees(t *testing.T) {
	d := frames.NewDecoder()
	for n := 1; n <= 3; n++ {
		for v := range 1 << (4 * n) {
			told := []int{v & 15, v >> 4 & 15, v >> 8}[:n]
			tree := outright(told)
			for _, stream := range []string{"\x01", "\x05", "\x1b"} {
				for size := range 4 {
					agree(t, d, wide+lits(1, coded(2, 0, size, tree+stream)), 9, 0)
				}
			}
		}
	}
}

func TestTreesThatAreUsedAgain(t *testing.T) {
	text := "\x00\x01\x01\x00\x01\x00\x00"
	other := "\x02\x00\x01\x03\x03\x01\x02"
	first := func(last int) string { return lits(last, coded(2, 0, 7, outright(pair)+one(pair, text))) }
	second := func(last int) string { return lits(last, coded(2, 1, 7, outright(steps)+four(steps, other))) }
	again := func(last int) string { return lits(last, coded(3, 1, 7, four(pair, text))) }
	againSecond := func(last int) string { return lits(last, coded(3, 0, 7, one(steps, other))) }
	between := raw(0, "ab") + same(0, "c", 2) + lits(0, plain(0, 0, 1, "d")) + lits(0, plain(1, 0, 2, "e"))
	weights := tabled(5, []int{0, 24, 8}, []int{1, 1, 2})
	hold(t, "P8", []row{
		{"none", wide + again(1), 99, "", api.ErrTree},
		{"none, one stream", wide + againSecond(1), 99, "", api.ErrTree},
		{"none, and no literals", wide + lits(1, coded(3, 0, 0, "\x01")), 99, "", api.ErrTree},
		{"none behind other blocks", wide + between + again(1), 99, "", api.ErrTree},
		{"none, it stands behind", wide + again(0) + first(1), 99, "", api.ErrTree},
		{"again", wide + first(0) + again(1), 99, text + text, api.OK},
		{"again and again", wide + first(0) + again(0) + again(0) + again(1), 99, strings.Repeat(text, 4), api.OK},
		{"behind other blocks", wide + first(0) + between + again(1), 99, text + "abccdee" + text, api.OK},
		{"the last one", wide + first(0) + second(0) + againSecond(1), 99, text + other + other, api.OK},
		{"the last one, the other way round", wide + second(0) + first(0) + again(1), 99, other + text + text, api.OK},
		{"not the last but one", wide + first(0) + second(0) + again(1), 99, "", api.ErrStream},
		{"told by a table", wide + lits(0, coded(2, 0, 3, weights+one([]int{1, 1, 2}, "\x03\x00\x01"))) + lits(1, coded(3, 0, 2, one([]int{1, 1, 2}, "\x02\x03"))), 99, "\x03\x00\x01\x02\x03", api.OK},
		{"that said nothing", wide + planted + again(1), 99, text, api.OK},
		{"in a second frame", wide + first(1) + wide + again(1), 99, "", api.ErrTree},
		{"in a second frame, behind other blocks", wide + first(1) + wide + between + again(1), 99, "", api.ErrTree},
		{"in a second frame, behind one passed over", wide + first(1) + passed(0, "x") + wide + again(1), 99, "", api.ErrTree},
		{"in a second frame with one of its own", wide + second(1) + wide + first(0) + again(1), 99, other + text + text, api.OK},
		{"in a third frame", wide + first(0) + again(1) + wide + second(0) + againSecond(1) + wide + again(1), 99, "", api.ErrTree},
	})
}

// TestTreesAreNotKept: neither in the decoder nor anywhere else.
func TestTreesAreNotKept(t *testing.T) {
	d := frames.NewDecoder()
	with := wide + planted + raw(1, "")
	without := wide + lits(1, coded(3, 0, 1, one(pair, "\x01")))
	for _, cutOff := range []int{0, 1, 3} {
		d.Decode(cut(with, cutOff), 99, 0)
		if out, e := d.Decode(without, 99, 0); out != "" || e != api.ErrTree {
			t.Errorf("P2: a tree of the call ahead: %q, %d", out, e)
		}
	}
}

func TestTreesByTables(t *testing.T) {
	var rows []row
	for _, f := range []struct {
		accuracy int
		counts   []int
		told     []int
	}{
		{5, []int{16, 16}, []int{1, 1}},
		{5, []int{16, 16}, []int{0, 1}},
		{5, []int{16, 16}, []int{1, 0}},
		{5, []int{16, 16}, []int{0, 0, 1, 1, 0}},
		{5, []int{0, 24, 8}, []int{1, 1, 2}},
		{5, []int{0, 24, 8}, []int{1, 2}},
		{5, []int{0, 31, rare}, []int{1, 2}},
		{5, []int{0, rare, 31}, []int{2, 1}},
		{5, []int{10, rare, rare, 20}, []int{3, 2, 1, 0, 0, 0}},
		{5, []int{21, rare, rare, rare, rare, rare, rare, rare, rare, rare, rare, rare}, ladder},
		{6, []int{21, 4, 4, 4, 4, 4, 4, 4, 4, 4, 4, 3}, ladder},
		{6, []int{49, rare, rare, rare, 1, 1, 1, 2, 2, 2, 2, rare}, slices.Concat(ladder, times(200, 0))},
		{6, []int{0, 62, rare, rare}, slices.Concat(times(118, 1), []int{2, 3, 3})},
		{5, []int{rare, 31}, times(127, 1)},
		{5, []int{rare, 31}, times(128, 1)},
		{5, []int{rare, 31}, times(192, 1)},
		{5, []int{rare, 31}, times(254, 1)},
		{5, []int{rare, 31}, times(255, 1)},
		{6, []int{63, rare}, slices.Concat(times(253, 0), []int{1, 0})},
		{6, []int{63, rare}, slices.Concat(times(253, 0), []int{0, 1})},
	} {
		text := symbols(f.told)
		tree := tabled(f.accuracy, f.counts, f.told)
		rows = append(rows, row{"weights", withTree(tree, f.told, text), api.MaxOut, text, api.OK})
	}
	hold(t, "P8", rows)
}

// randomWeights are those of a tree: a whole is halved again and again.
func randomWeights(r *rand.Rand) []int {
	log := 1 + r.Intn(11)
	parts := []int{log, log}
	for n := r.Intn(40); n > 0; n-- {
		i := r.Intn(len(parts))
		if parts[i] > 1 {
			parts[i]--
			parts = append(parts, parts[i])
		}
	}
	for !slices.Contains(parts, 1) {
		i := r.Intn(len(parts))
		parts[i]--
		parts = append(parts, parts[i])
	}
	r.Shuffle(len(parts), func(i, j int) { parts[i], parts[j] = parts[j], parts[i] })
	var told []int
	for _, w := range parts {
		if r.Intn(3) == 0 {
			told = append(told, times(r.Intn(6), 0)...)
		}
		told = append(told, w)
	}
	return told[:min(len(told)-1, 255)]
}

// randomCounts are those of a table that can say all these weights.
func randomCounts(r *rand.Rand, accuracy int, told []int) []int {
	counts := make([]int, 12)
	left := 1 << accuracy
	for w := range counts {
		if slices.Contains(told, w) || r.Intn(6) == 0 {
			counts[w] = 1
			left--
			if r.Intn(3) == 0 {
				counts[w] = rare
			}
		}
	}
	var open []int
	for w, c := range counts {
		if c == 1 {
			open = append(open, w)
		}
	}
	if len(open) == 0 {
		w := r.Intn(12)
		if counts[w] == 0 {
			left--
		}
		counts[w] = 1
		open = []int{w}
	}
	for left > 0 {
		n := 1 + r.Intn(left)
		counts[open[r.Intn(len(open))]] += n
		left -= n
	}
	end := 12
	for counts[end-1] == 0 {
		end--
	}
	return counts[:end]
}

// TestRandomTrees: trees of either make, whose tables' heads end at each place
// of a byte.
func TestRandomTrees(t *testing.T) {
	r := rand.New(rand.NewSource(3))
	ends := make([]int, 8)
	for range 1500 {
		told := randomWeights(r)
		text := symbols(told)
		if len(told) <= 128 {
			hold(t, "P8", []row{{"outright", withTree(outright(told), told, text), api.MaxOut, text, api.OK}})
		}
		accuracy := 5 + r.Intn(2)
		counts := randomCounts(r, accuracy, told)
		if len(told) < 2 || slices.Contains(counts, 1<<accuracy) {
			continue
		}
		head := headOf(accuracy, counts)
		ends[len(head)%8]++
		for fill := r.Intn(2); fill > 0 && len(head)%8 > 0; {
			// The rest of a byte that was begun says nothing.
			head += "1"
		}
		body := forward(head) + backward(walk(accuracy, counts, told, r.Intn(3)))
		if len(body) < 128 {
			hold(t, "P9", []row{{"by a table", withTree(sized(body), told, text), api.MaxOut, text, api.OK}})
		}
	}
	for i, n := range ends {
		if n == 0 {
			t.Errorf("no table's head ended %d bits into a byte", i)
		}
	}
}
