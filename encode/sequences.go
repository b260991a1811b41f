package encode

import (
	"frames/api"
	"frames/bits"
	"frames/codes"
	"frames/distance"
	"frames/layout"
	"frames/search"
	"frames/table"
	"frames/tally"
)

// sequence is a copy as it is told, by api.LL, api.OF and api.ML.
type sequence struct {
	values [3]int
	codes  [3]int
}

// tell is copies as sequences; the last three distances move by them.
func (k *kept) tell(copies []search.Copy, reps bool) []sequence {
	list := []sequence{}
	for _, c := range copies {
		v := distance.Outright(c.Distance)
		if reps {
			v = k.last.Told(c.Distance, c.Literals)
		}
		k.last.Use(v, c.Literals)
		s := sequence{values: [3]int{c.Literals, v, c.Length}}
		for t := 0; t < 3; t++ {
			s.codes[t] = codes.Of(t, s.values[t])
		}
		list = append(list, s)
	}
	return list
}

// writeSequences writes the sequences of a block, with tables by the modes that
// are asked for.
func (k *kept) writeSequences(out *writer, list []sequence, ask int) {
	writeCount(out, len(list))
	if len(list) == 0 {
		return
	}
	modes := 0
	told := ""
	for t := 0; t < 3; t++ {
		met := codesMet(list, t)
		mode := k.modeOf(t, &met, ask>>(2*t)&3)
		modes |= mode << layout.ModeShift(t)
		k.heads[t] = k.headOf(t, &met, mode)
		told += tableOf(&k.heads[t], mode)
	}
	out.number(modes, 1)
	out.text(told)
	out.text(streamOf(list, k.heads))
}

// writeCount writes how many sequences there are, which are not as many as
// would need three bytes.
func writeCount(out *writer, count int) {
	if count < 128 {
		out.number(count, 1)
		return
	}
	out.number(128+count>>8, 1)
	out.number(count, 1)
}

// codesMet counts the codes of the table t.
func codesMet(list []sequence, t int) tally.Tally {
	met := tally.Tally{}
	for _, s := range list {
		met.Add(s.codes[t])
	}
	return met
}

// modeOf is the mode of the table t for the codes that were met (P15).
func (k *kept) modeOf(t int, met *tally.Tally, ask int) int {
	different := met.Different()
	switch ask {
	case layout.OneMode:
		if different == 1 {
			return layout.OneMode
		}
	case layout.HeadMode:
		if different > 1 {
			return layout.HeadMode
		}
	case layout.AgainMode:
		if saysAll(&k.heads[t], met) {
			return layout.AgainMode
		}
	}
	return layout.UsualMode
}

// saysAll: the table of a head has each code that was met. A table has just the
// codes that it was written for.
func saysAll(h *table.Head, met *tally.Tally) bool {
	for code, often := range met.Often {
		if often > 0 && !h.Says(code) {
			return false
		}
	}
	return true
}

// headOf is the head of the table t by its mode.
func (k *kept) headOf(t int, met *tally.Tally, mode int) table.Head {
	switch mode {
	case layout.OneMode:
		return table.Only(met.Commonest())
	case layout.HeadMode:
		return table.Share(met, api.Log(t))
	case layout.AgainMode:
		return k.heads[t]
	}
	return codes.Usual(t)
}

// tableOf is the bytes that tell a table by its mode.
func tableOf(h *table.Head, mode int) string {
	out := bits.Writer{}
	switch mode {
	case layout.OneMode:
		out.Add(len(h.Counts)-1, 8)
	case layout.HeadMode:
		h.Write(&out)
	}
	return out.Forward()
}
