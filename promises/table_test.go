package promises

import (
	"math/rand"
	"slices"
	"strings"
	"testing"

	"frames/api"
	"frames/frames"
)

// headed is a row of a good tree: the bits of its table's head mean these
// counts.
func headed(name, head string, accuracy int, counts, told []int) row {
	text := symbols(told)
	tree := sized(forward(head) + backward(walk(accuracy, counts, told, 0)))
	return row{name, withTree(tree, told, text), api.MaxOut, text, api.OK}
}

// unheaded is a row of a table that is none. Behind its head stands a stream
// that is long enough for all.
func unheaded(name, head string) row {
	return row{name, treeAlone(sized(forward(head) + backward(strings.Repeat("01", 100)))), 99, "", api.ErrTree}
}

// TestHeadsByHand: heads of tables, bit by bit.
func TestHeadsByHand(t *testing.T) {
	hold(t, "P9", []row{
		// left + 1 is 33: six bits, spare is 30; then it is 17: five, spare is 14.
		headed("two halves", "0000"+"10001"+"11111", 5, []int{16, 16}, []int{0, 1, 1}),
		headed("the greatest below spare", "0000"+"10111"+"011"+"11", 5, []int{28, 3, 1}, []int{2, 0, 1}),
		headed("just spare", "0000"+"011110"+"01"+"11", 5, []int{29, 1, 2}, []int{2, 0, 1}),
		headed("spare and one", "0000"+"111110"+"11", 5, []int{30, 2}, []int{0, 1, 1}),
		headed("the least with the bit set", "0000"+"011111"+"11", 5, []int{31, 1}, []int{0, 1, 1}),
		headed("a rare one last", "0000"+"011111"+"0", 5, []int{31, rare}, []int{0, 1, 1}),
		headed("rare ones around", "0000"+"00000"+"111110"+"0", 5, []int{rare, 30, rare}, []int{1, 0, 2}),
		headed("accuracy 6", "1000"+"100001"+"111111", 6, []int{32, 32}, []int{0, 1, 1}),
		headed("one with no state", "0000"+"10000"+"00"+"10001"+"11111", 5, []int{0, 16, 16}, []int{1, 2}),
	})
}

// TestStatesByHand: what states say and how they go on. From one state to the
// next it is 23. Symbol 0 has the states 0, 23, 14 and 5, of the values 4, 7, 6
// and 5; symbol 2 has state 31, symbol 3 state 30, symbol 1 all the others, of
// which state 1 needs a bit.
func TestStatesByHand(t *testing.T) {
	counts := []int{4, 26, rare, rare}
	ask := func(first, second int, bits string, told ...int) row {
		text := symbols(told)
		tree := sized(forward(headOf(5, counts)) + backward(high(first, 5)+high(second, 5)+bits))
		return row{"states", withTree(tree, told, text), api.MaxOut, text, api.OK}
	}
	hold(t, "P9", []row{
		ask(0, 1, "", 0, 1),
		ask(5, 28, "", 0, 1),
		ask(14, 19, "", 0, 1),
		ask(23, 29, "", 0, 1),
		ask(31, 24, "", 2, 1),
		ask(1, 31, "", 1, 2),
		ask(1, 23, "", 1, 0),
		ask(0, 1, "101", 0, 1, 0),
		ask(5, 1, "110", 0, 1, 0),
		ask(14, 1, "111", 0, 1, 0),
		ask(23, 1, "111", 0, 1, 2),
		ask(31, 1, "00000", 2, 1, 0),
		ask(30, 31, "10011", 3, 2, 1),
		ask(0, 0, "001"+"101", 0, 0, 1, 0),
	})
}

// TestWhereWeightsEnd: a state ends them that needs more bits than are left.
func TestWhereWeightsEnd(t *testing.T) {
	counts := []int{8, 8, 16} // the states of 0 and 1 need two bits
	told := []int{0, 1, 1}
	bits := walk(5, counts, told, 0)
	tree := func(bits string) string { return sized(forward(headOf(5, counts)) + backward(bits)) }
	text := symbols(told)
	rows := []row{
		{"no bit left", withTree(tree(bits), told, text), 99, text, api.OK},
		{"one bit left", withTree(tree(bits+"0"), told, text), 99, text, api.OK},
		{"one bit left, set", withTree(tree(bits+"1"), told, text), 99, text, api.OK},
		{"two bits left: one weight more", treeAlone(tree(bits + "00")), 99, "", modelTree(tree(bits + "00"))},
		{"two bits left, set", treeAlone(tree(bits + "11")), 99, "", modelTree(tree(bits + "11"))},
		{"no stream", treeAlone(sized(forward(headOf(5, counts)))), 99, "", api.ErrTree},
		{"a stream of 0", treeAlone(sized(forward(headOf(5, counts)) + "\x00")), 99, "", api.ErrTree},
		{"a stream that ends with 0", treeAlone(sized(forward(headOf(5, counts)) + backward(bits) + "\x00")), 99, "", api.ErrTree},
		{"two states and no more", treeAlone(tree(high(8, 5) + high(31, 5))), 99, "", modelTree(tree(high(8, 5) + high(31, 5)))},
	}
	for n := range 10 {
		rows = append(rows, row{"no room for two states", treeAlone(tree(bits[:n])), 99, "", api.ErrTree})
		rows = append(rows, row{"no room for two states", treeAlone(tree(strings.Repeat("0", n))), 99, "", api.ErrTree})
	}
	six := forward(headOf(6, []int{32, 32}))
	for n := range 12 {
		rows = append(rows, row{"no room for two states of six bits", treeAlone(sized(six + backward(strings.Repeat("1", n)))), 99, "", api.ErrTree})
	}
	hold(t, "P8", rows)
}

// modelTree is the model's answer to a tree.
func modelTree(tree string) api.Errno {
	_, e := modelSays(treeAlone(tree), 99)
	return e
}

func TestTooManyWeights(t *testing.T) {
	ones := []int{rare, 31}
	tree := func(accuracy int, counts []int, told []int) string { return treeAlone(tabled(accuracy, counts, told)) }
	hold(t, "P8", []row{
		{"254", tree(5, ones, times(254, 1)), 9, "", api.OK},
		{"255", tree(5, ones, times(255, 1)), 9, "", api.OK},
		{"256", tree(5, ones, times(256, 1)), 9, "", api.ErrTree},
		{"256, with a sum of 1", tree(5, []int{31, rare}, append(times(255, 0), 1)), 9, "", api.ErrTree},
		{"257, with a sum of 1", tree(5, []int{31, rare}, append(times(256, 0), 1)), 9, "", api.ErrTree},
		{"384", tree(5, ones, times(384, 1)), 9, "", api.ErrTree},
		{"without end", treeAlone(sized(forward(headOf(5, []int{0, 32})) + backward(strings.Repeat("0", 10)))), 9, "", api.ErrTree},
		{"without end, accuracy 6", treeAlone(sized(forward(headOf(6, []int{64})) + backward(strings.Repeat("1", 12)))), 9, "", api.ErrTree},
	})
}

func TestRunsOfSymbolsWithNoState(t *testing.T) {
	var rows []row
	// Weights 1 and k alone: k once, and as many ones as leave over a power of 2.
	for k := 3; k <= 9; k++ {
		told := append([]int{k}, times(1<<(k-2), 1)...)
		counts := append([]int{0, 25}, append(make([]int, k-2), 7)...)
		rows = append(rows, headed("a run", headOf(5, counts), 5, counts, told))
	}
	// Symbol 1, then symbol 2 and r more with no state, then one that is not used.
	for r := range 30 {
		head := "0000" + "10000" + "00" + "10001" + "1000" + run(r) + "11111"
		counts := append([]int{0, 16, 0}, append(make([]int, r), 16)...)
		if len(counts) <= 12 {
			rows = append(rows, headed("the symbol behind a run", head, 5, counts, []int{1, 1}))
		} else {
			rows = append(rows, unheaded("a symbol that is too great behind a run", head))
		}
	}
	rows = append(rows, unheaded("a run without end", "0000"+"10000"+strings.Repeat("1", 700)))
	hold(t, "P9", rows)
}

func TestGreatestSymbolOfWeights(t *testing.T) {
	with := func(counts ...int) []int { return append([]int{1, 20, 1, 1, 1, 1, 1, 1, 1, 1, 1}, counts...) }
	hold(t, "P9", []row{
		headed("11", headOf(5, with(2)), 5, with(2), ladder),
		unheaded("12", headOf(5, with(1, 1))),
		unheaded("12 is rare", headOf(5, with(1, rare))),
		unheaded("11 and 12 are rare", headOf(5, with(rare, rare))),
		unheaded("11 has no state, 12 has some", headOf(5, with(0, 2))),
		unheaded("11 and 12 have no state, 13 has some", headOf(5, with(0, 0, 2))),
		unheaded("12 has no state, 13 has some", headOf(5, with(1, 0, 1))),
	})
}

func TestAccuracyOfWeights(t *testing.T) {
	var rows []row
	for accuracy := 5; accuracy <= 20; accuracy++ {
		half := 1 << (accuracy - 1)
		head := headOf(accuracy, []int{half, half})
		if accuracy <= 6 {
			rows = append(rows, headed("an accuracy", head, accuracy, []int{half, half}, []int{1, 0}))
		} else {
			rows = append(rows, unheaded("an accuracy that is too great", head))
		}
	}
	hold(t, "P9", rows)
}

// TestBitsOfTablesThatAreNotThere: the head ends behind the bytes that are the
// tree's, though what stands behind these would go on with it.
func TestBitsOfTablesThatAreNotThere(t *testing.T) {
	r := rand.New(rand.NewSource(4))
	lacks := make([]int, 30)
	for range 400 {
		told := randomWeights(r)
		accuracy := 5 + r.Intn(2)
		counts := randomCounts(r, accuracy, told)
		bits := headOf(accuracy, counts)
		head := forward(bits)
		var rows []row
		for n := 0; n <= len(head); n++ {
			tree := little(uint64(n), 1) + head
			rows = append(rows, row{"the tree ends in its table", treeAlone(tree + backward(strings.Repeat("01", 60))), 9, "", api.ErrTree})
			rows = append(rows, row{"all ends in the table", wide + lits(1, coded(2, 0, 0, tree[:1+n])), 9, "", api.ErrTree})
			lacks[min(29, max(0, len(bits)-8*n))]++
		}
		hold(t, "P9", rows)
	}
	for n := 1; n < 20; n++ {
		if lacks[n] == 0 {
			t.Errorf("no head lacked %d bits", n)
		}
	}
}

// TestBytesOfTreesByTables: the first byte tells all of the tree's bytes.
func TestBytesOfTreesByTables(t *testing.T) {
	d := frames.NewDecoder()
	counts := []int{12, rare, rare, 18}
	told := []int{3, 2, 1, 0, 0, 0}
	tree := tabled(5, counts, told)
	text := symbols(told)
	for h := range 256 {
		s := wide + lits(1, coded(2, 0, len(text), little(uint64(h), 1)+tree[1:]+one(told, text)))
		agree(t, d, s, 99, 0)
	}
	for n := range len(tree) {
		out, e := d.Decode(wide+lits(1, coded(2, 0, 0, tree[:n])), 99, 0)
		if out != "" || e != api.ErrTree {
			t.Errorf("P8: a tree that is cut behind %d bytes: %q, %d", n, out, e)
		}
	}
	if !slices.Equal([]byte(tree[:1]), []byte{byte(len(tree) - 1)}) {
		t.Errorf("the tree tells %d bytes", tree[0])
	}
}

// TestRandomTables: any bytes as a table and a stream of weights.
func TestRandomTables(t *testing.T) {
	r := rand.New(rand.NewSource(5))
	d := frames.NewDecoder()
	trees := 0
	for range 30000 {
		b := make([]byte, 1+r.Intn(12))
		r.Read(b)
		b[0] = b[0]&^15 | byte(r.Intn(8)/3)
		tree := sized(string(b))
		if modelTree(tree) == api.OK {
			trees++
		}
		agree(t, d, wide+lits(1, coded(2, 0, r.Intn(4), tree+"\x15")), 99, 0)
	}
	if trees < 50 {
		t.Errorf("only %d trees", trees)
	}
}

// TestRandomLiterals: frames of compressed blocks, good ones and with a bit
// turned.
func TestRandomLiterals(t *testing.T) {
	r := rand.New(rand.NewSource(6))
	d := frames.NewDecoder()
	good := 0
	for range 1500 {
		s, content := randomLiterals(r)
		want := row{"several blocks", s, len(content), content, api.OK}
		hold(t, "P8", []row{want})
		if len(content) > 0 {
			want.limit, want.out, want.e = len(content)-1, "", api.ErrLimit
			hold(t, "P7", []row{want})
		}
		for range 10 {
			b := []byte(s)
			b[r.Intn(len(b))] ^= 1 << r.Intn(8)
			agree(t, d, string(b), 2000, 0)
			agree(t, d, s[:r.Intn(len(s))], len(content), 0)
			if _, e := d.Decode(string(b), 2000, 0); e == api.OK {
				good++
			}
		}
	}
	if good < 300 {
		t.Errorf("only %d good ones with a bit turned", good)
	}
}

// randomLiterals is a frame of compressed blocks, and what it says.
func randomLiterals(r *rand.Rand) (s, content string) {
	var told []int
	s = wide
	for last := 0; last == 0; {
		last = r.Intn(4) / 3
		n := r.Intn(60)
		kind := r.Intn(4)
		form := r.Intn(4)
		if kind == 3 && told == nil {
			kind = 2
		}
		if kind > 1 && form > 0 {
			n += 6
		}
		if kind < 2 && form%2 == 0 {
			n %= 32
			form = 0
		}
		tree := ""
		if kind == 2 {
			told, tree = randomTree(r)
		}
		text := some(n)
		switch kind {
		case 0:
			s += lits(last, plain(0, form, n, text))
		case 1:
			text = xs(n)
			s += lits(last, plain(1, form, n, "x"))
		default:
			text = randomText(r, told, n)
			s += lits(last, coded(kind, form, n, tree+streams(form, told, text)))
		}
		content += text
	}
	return s, content
}

// randomTree is a tree of either make, and its weights.
func randomTree(r *rand.Rand) ([]int, string) {
	for {
		told := randomWeights(r)
		if r.Intn(2) == 0 && len(told) <= 128 {
			return told, outright(told)
		}
		accuracy := 5 + r.Intn(2)
		counts := randomCounts(r, accuracy, told)
		if len(told) < 2 || slices.Contains(counts, 1<<accuracy) {
			continue
		}
		body := forward(headOf(accuracy, counts)) + backward(walk(accuracy, counts, told, r.Intn(3)))
		if len(body) < 128 {
			return told, sized(body)
		}
	}
}

// randomText is n symbols that the tree can say.
func randomText(r *rand.Rand, told []int, n int) string {
	all := symbols(told)
	b := make([]byte, n)
	for i := range b {
		b[i] = all[r.Intn(len(all))]
	}
	return string(b)
}
