package promises

import (
	"fmt"
	"slices"
	"strings"
	"testing"

	"frames/api"
	"frames/frames"
)

// readWritten reads what Encode wrote step by step: one frame, no more. Unlike
// Decode it does not refuse a frame of more than MaxIn bytes.
func readWritten(f string, limit int) (m model, e api.Errno) {
	m = model{s: f, limit: limit}
	defer func() {
		if r := recover(); r != nil {
			e = r.(api.Errno)
		}
	}()
	m.next()
	return m, api.OK
}

// encoded is the frame that Encode writes, and what its blocks tell. All is held
// against P12 to P15, whatever the encoder made of what is free.
func encoded(t *testing.T, src string, ch api.Choice) (string, []note) {
	t.Helper()
	f, e := frames.NewEncoder().Encode(src, ch)
	if e != api.OK {
		t.Fatalf("P12: Encode(%q (%d bytes), %+v) = %d", short(src), len(src), ch, e)
	}
	m, e := readWritten(f, len(src))
	if e != api.OK || string(m.out) != src || m.s != "" || len(m.heads) != 1 {
		t.Fatalf("P12: what Encode(%q (%d bytes), %+v) = %x gives says %q, %d, and %d bytes stand behind it", src, len(src), ch, f, m.out, e, len(m.s))
	}
	if len(f) <= api.MaxIn {
		if out, e := frames.NewDecoder().Decode(f, len(src), 0); out != src || e != api.OK {
			t.Fatalf("P12: Decode of what Encode(%q, %+v) = %x gives is %q, %d", src, ch, f, out, e)
		}
	}
	faults := headFaults(m.heads[0], ch)
	if len(faults) == 0 {
		faults = blockFaults(m, src, ch)
	}
	if len(faults) > 0 {
		t.Fatalf("Encode(%q (%d bytes), %+v) = %x:\n%s", src, len(src), ch, f, strings.Join(faults, "\n"))
	}
	return f, m.notes
}

// headFaults is what P12 finds wrong with a head, from its descriptor on.
func headFaults(head string, ch api.Choice) (faults []string) {
	d := int(head[0])
	if d>>5&1 != ch.Single {
		faults = append(faults, fmt.Sprintf("P12: Single %d: descriptor %08b", ch.Single, d))
	}
	if d>>2&1 != ch.Check {
		faults = append(faults, fmt.Sprintf("P12: Check %d: descriptor %08b", ch.Check, d))
	}
	if told := d>>6 > 0 || d>>5&1 == 1; told != (ch.Single == 1 || ch.Size == 1) {
		faults = append(faults, fmt.Sprintf("P12: Single %d, Size %d: descriptor %08b", ch.Single, ch.Size, d))
	}
	if d>>5&1 == 0 && int(head[1]) != ch.Window {
		faults = append(faults, fmt.Sprintf("P12: Window %d: %d", ch.Window, head[1]))
	}
	return faults
}

// mostOf is Most (P6) of a frame that is asked for.
func mostOf(src string, ch api.Choice) int {
	if ch.Single == 1 {
		return len(src)
	}
	return min(1<<17, (8+ch.Window%8)<<(7+ch.Window/8))
}

// pieces is src as blocks say it (P13).
func pieces(src string, ch api.Choice) []string {
	if src == "" {
		return []string{""}
	}
	var l []string
	for n := min(ch.Block, mostOf(src, ch)); len(src) > n; src = src[n:] {
		l = append(l, src[:n])
	}
	return append(l, src)
}

// blockFaults is what P13 to P15 find wrong with the blocks.
func blockFaults(m model, src string, ch api.Choice) (faults []string) {
	want := pieces(src, ch)
	if len(want) != len(m.notes) {
		return []string{fmt.Sprintf("P13: %d blocks, want %d", len(m.notes), len(want))}
	}
	r := rules{ch: ch, most: mostOf(src, ch), last: []int{1, 4, 8}}
	for k, n := range m.notes {
		var l []string
		if n.said != want[k] {
			l = []string{fmt.Sprintf("P13: it says %q, want %q", n.said, want[k])}
		}
		l = append(l, r.typeFault(ch.Types[k%len(ch.Types)], n))
		if n.kind == 2 {
			l = append(l, r.literalsFault(ch.Lits[k%len(ch.Lits)], n))
			l = append(l, r.distanceFault(n), r.modesFault(ch.Modes[k%len(ch.Modes)], n))
		}
		for _, s := range l {
			if s != "" {
				faults = append(faults, fmt.Sprintf("block %d: %s", k, s))
			}
		}
	}
	return faults
}

// rules are P13 to P15, and what of the blocks so far counts for the next one.
type rules struct {
	ch     api.Choice
	most   int
	tree   string   // the literals for which the last tree was written; none: there is no tree
	tables [3][]int // the codes for which the last tables were; none: there is no table
	last   []int    // distances
}

// distinct is the different bytes of s.
func distinct(s string) int {
	b := []byte(s)
	slices.Sort(b)
	return len(slices.Compact(b))
}

// typeFault is what is wrong with a block's type.
func (r *rules) typeFault(ask int, n note) string {
	want := 0
	if ask == 1 && distinct(n.said) == 1 {
		want = 1
	}
	if ask == 2 && (n.kind != 0 || 2*len(n.said)+600 <= r.most) {
		want = 2
	}
	if n.kind != want {
		return fmt.Sprintf("P13: type %d was asked, it is of type %d, want %d", ask, n.kind, want)
	}
	return ""
}

// kinds is those that literals may be of.
func (r *rules) kinds(ask int, lits string) []int {
	size, different := len(lits), distinct(lits)
	above := slices.ContainsFunc([]byte(lits), func(b byte) bool { return b > 128 })
	strange := slices.ContainsFunc([]byte(lits), func(b byte) bool { return strings.IndexByte(r.tree, b) < 0 })
	long := func(beside int) bool { return size > 1023 || size*11/8+beside > 1023 }
	switch {
	case ask == 1 && different == 1:
		return []int{1}
	case ask == 2 && different > 1 && (above || long(140)), ask == 3 && different > 1 && size >= 6 && above:
		return []int{0, 2}
	case ask == 2 && different > 1, ask == 3 && different > 1 && size >= 6:
		return []int{2}
	case ask == 4 && different > 0 && !strange && long(2):
		return []int{0, 3}
	case ask == 4 && different > 0 && !strange, ask == 5 && size >= 6 && !strange:
		return []int{3}
	}
	return []int{0}
}

// literalsFault is what is wrong with a block's literals.
func (r *rules) literalsFault(ask int, n note) string {
	if want := r.kinds(ask, n.lits); !slices.Contains(want, n.lkind) {
		return fmt.Sprintf("P14: Lits %d: %q (%d) are of kind %d, want %d; the last tree was written for %q", ask, n.lits, len(n.lits), n.lkind, want, r.tree)
	}
	if four := ask == 3 || ask == 5; n.lkind >= 2 && (n.form > 0) != four {
		return fmt.Sprintf("P14: Lits %d: form %d", ask, n.form)
	}
	if n.lkind == 2 {
		r.tree = n.lits
	}
	return ""
}

// meant is the distance that OF's value v, of 1 to 3, means.
func (r *rules) meant(v, ll int) int {
	if ll == 0 && v == 3 {
		return r.last[0] - 1
	}
	if ll == 0 {
		return r.last[v]
	}
	return r.last[v-1]
}

// distanceFault is what is wrong with how distances are told.
func (r *rules) distanceFault(n note) string {
	if r.ch.Search == 0 && len(n.seqs) > 0 {
		return "P16: a copy, with Search 0"
	}
	for i, q := range n.seqs {
		want := n.backs[i] + 3
		for v := 3; v >= 1 && r.ch.Reps == 1; v-- {
			if r.meant(v, q.ll) == n.backs[i] {
				want = v
			}
		}
		if q.of != want {
			return fmt.Sprintf("P15: Reps %d: behind %d literals %d is told by %d, want %d; the last ones are %d", r.ch.Reps, q.ll, n.backs[i], q.of, want, r.last)
		}
		r.move(n.backs[i], q.of, q.ll)
	}
	return ""
}

// move makes the distance that v told the first of the last three.
func (r *rules) move(back, v, ll int) {
	switch l := r.last; {
	case v == 1 && ll > 0:
	case v == 1 || v == 2 && ll > 0:
		r.last = []int{back, l[0], l[2]}
	default:
		r.last = []int{back, l[0], l[1]}
	}
}

// usualTop is the greatest code of each usual table.
var usualTop = [3]int{35, 28, 52}

// modesFault is what is wrong with the modes of a block's tables.
func (r *rules) modesFault(ask int, n note) string {
	if len(n.seqs) == 0 {
		return ""
	}
	for t := range 3 {
		var codes []int
		for _, q := range n.seqs {
			codes = append(codes, codeOf(t, q.value(t)))
		}
		slices.Sort(codes)
		codes = slices.Compact(codes)
		strange := slices.ContainsFunc(codes, func(c int) bool { return !slices.Contains(r.tables[t], c) })
		want, asks := 0, ask>>(2*t)&3
		if asks == 1 && len(codes) == 1 || asks == 2 && len(codes) > 1 || asks == 3 && !strange {
			want = asks
		}
		if n.modes[t] != want {
			return fmt.Sprintf("P15: Modes %d, table %d: mode %d, want %d, for the codes %d; the last was written for %d", ask, t, n.modes[t], want, codes, r.tables[t])
		}
		switch want {
		case 0:
			r.tables[t] = upTo(usualTop[t])
		case 1, 2:
			r.tables[t] = codes
		}
	}
	return ""
}

// upTo is the numbers from 0 to n.
func upTo(n int) []int {
	var l []int
	for i := range n + 1 {
		l = append(l, i)
	}
	return l
}
