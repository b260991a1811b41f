package promises

import "frames/api"

// least is the least value of each code of the three tables, and where the last
// code's values end.
var least = [3][]int{
	{
		0, 1, 2, 3, 4, 5, 6, 7, 8, 9, 10, 11, 12, 13, 14, 15,
		16, 18, 20, 22, 24, 28, 32, 40, 48, 64, 128, 256, 512, 1024, 2048, 4096, 8192, 16384, 32768, 65536, 131072,
	},
	{
		1, 2, 4, 8, 16, 32, 64, 128, 256, 512, 1024, 2048, 4096, 8192, 16384, 32768, 65536, 1 << 17, 1 << 18, 1 << 19,
		1 << 20, 1 << 21, 1 << 22, 1 << 23, 1 << 24, 1 << 25, 1 << 26, 1 << 27, 1 << 28, 1 << 29, 1 << 30, 1 << 31, 1 << 32,
	},
	{
		3, 4, 5, 6, 7, 8, 9, 10, 11, 12, 13, 14, 15, 16, 17, 18, 19, 20, 21, 22, 23, 24, 25, 26, 27, 28, 29, 30, 31, 32, 33, 34,
		35, 37, 39, 41, 43, 47, 51, 59, 67, 83, 99, 131, 259, 515, 1027, 2051, 4099, 8195, 16387, 32771, 65539, 131075,
	},
}

// topCode and topAccuracy are the greatest ones of the three tables.
var (
	topCode     = [3]int{35, 31, 52}
	topAccuracy = [3]int{9, 8, 9}
)

// more is how many bits more a code has.
func more(t, code int) int {
	return len(trimmed(least[t][code+1]-least[t][code])) - 1
}

// usualAccuracy and usualCounts tell the usual tables.
var (
	usualAccuracy = [3]int{6, 5, 6}
	usualCounts   = [3][]int{
		{4, 3, 2, 2, 2, 2, 2, 2, 2, 2, 2, 2, 2, 1, 1, 1, 2, 2, 2, 2, 2, 2, 2, 2, 2, 3, 2, 1, 1, 1, 1, 1, -1, -1, -1, -1},
		{1, 1, 1, 1, 1, 1, 2, 2, 2, 1, 1, 1, 1, 1, 1, 1, 1, 1, 1, 1, 1, 1, 1, 1, -1, -1, -1, -1, -1},
		{
			1, 4, 3, 2, 2, 2, 2, 2, 2, 1, 1, 1, 1, 1, 1, 1, 1, 1, 1, 1, 1, 1, 1, 1, 1, 1, 1,
			1, 1, 1, 1, 1, 1, 1, 1, 1, 1, 1, 1, 1, 1, 1, 1, 1, 1, 1, -1, -1, -1, -1, -1, -1, -1,
		},
	}
)

// sequences reads sequences (P10), from their modes on.
func (m *model) sequences(s string, count int, lits string) {
	modes := pullNumber(&s, 1, api.ErrSeqs)
	fail(modes%4 > 0, api.ErrSeqs)
	for t, mode := range []int{modes / 64, modes / 16 % 4, modes / 4 % 4} {
		m.table(&s, t, mode)
		m.noting().modes[t] = mode
	}
	bits := behind(s, api.ErrStream)
	read := func(n int) int {
		fail(n > len(bits), api.ErrStream)
		x := highest(bits[:n])
		bits = bits[n:]
		return x
	}
	var at [3]int
	for t := range at {
		at[t] = read(len(trimmed(len(m.tables[t]))) - 1)
	}
	for i := range count {
		var v [3]int
		for _, t := range []int{api.OF, api.ML, api.LL} {
			code := m.tables[t][at[t]].symbol
			v[t] = least[t][code] + read(more(t, code))
		}
		if i+1 < count {
			for _, t := range []int{api.LL, api.ML, api.OF} {
				p := m.tables[t][at[t]]
				at[t] = p.next + read(p.needs)
			}
		}
		fail(v[api.LL] > len(lits), api.ErrSeqs)
		m.room(v[api.LL] + v[api.ML])
		m.out = append(m.out, lits[:v[api.LL]]...)
		lits = lits[v[api.LL]:]
		d := m.distance(v[api.OF], v[api.LL])
		fail(d <= 0 || d > len(m.out)-m.before || d > m.window, api.ErrOffset)
		m.noting().seqs = append(m.noting().seqs, seq{v[api.LL], v[api.OF], v[api.ML]})
		m.noting().backs = append(m.noting().backs, d)
		for range v[api.ML] {
			m.out = append(m.out, m.out[len(m.out)-d])
		}
	}
	fail(bits != "", api.ErrStream)
	m.give(lits)
}

// table reads one of the three tables by its mode.
func (m *model) table(s *string, t, mode int) {
	switch mode {
	case 0:
		m.tables[t] = statesOf(usualAccuracy[t], usualCounts[t])
	case 1:
		code := pullNumber(s, 1, api.ErrTable)
		fail(code > topCode[t], api.ErrTable)
		m.tables[t] = []place{{symbol: code}}
	case 2:
		accuracy, counts, rest := readCounts(*s, topAccuracy[t], topCode[t], api.ErrTable)
		*s = rest
		m.tables[t] = statesOf(accuracy, counts)
	}
	fail(m.tables[t] == nil, api.ErrTable)
}

// distance is the one that OF's value v means; it becomes the first.
func (m *model) distance(v, ll int) int {
	d := v - 3
	l := m.last
	switch {
	case v == 1 && ll > 0:
		return l[0]
	case v == 1 || v == 2 && ll > 0:
		m.last = []int{l[1], l[0], l[2]}
		return l[1]
	case v == 2 || v == 3 && ll > 0:
		d = l[2]
	case v == 3:
		d = l[0] - 1
	}
	m.last = []int{d, l[0], l[1]}
	return d
}
