package decode

import (
	"frames/api"
	"frames/bits"
	"frames/codes"
)

// sequence is what a sequence asks for, by its three values.
type sequence struct {
	literals int
	offset   int
	match    int
}

// sequences reads the sequences that stand behind a block's literals, and lets
// what they say come out.
func (d *decoding) sequences(in *reader, count int, literals string) api.Errno {
	e := d.readTables(in)
	if e != api.OK {
		return e
	}
	stream, fit := bits.OpenStream(in.rest)
	if !fit {
		return api.ErrStream
	}
	rest, e := d.follow(&stream, count, literals)
	if e != api.OK {
		return e
	}
	if stream.Left() > 0 {
		return api.ErrStream
	}
	return d.comeOut(rest, 1)
}

// follow does what the sequences of a stream ask for, and tells which literals
// are left behind them.
func (d *decoding) follow(stream *bits.Stream, count int, literals string) (string, api.Errno) {
	states, there := d.startStates(stream)
	if !there {
		return "", api.ErrStream
	}
	rest := literals
	for i := 0; i < count; i++ {
		s, there := d.readSequence(stream, states)
		if !there {
			return "", api.ErrStream
		}
		// The last sequence has no states behind it.
		if i < count-1 {
			states, there = d.goOn(stream, states)
		}
		if !there {
			return "", api.ErrStream
		}
		if s.literals > len(rest) {
			return "", api.ErrSeqs
		}
		e := d.carryOut(s, rest[:s.literals])
		if e != api.OK {
			return "", e
		}
		rest = rest[s.literals:]
	}
	return rest, api.OK
}

// startStates reads the states with which the three tables begin. It is false
// if a bit is not there.
func (d *decoding) startStates(stream *bits.Stream) ([3]int, bool) {
	states := [3]int{}
	for t := 0; t < 3; t++ {
		at, there := d.now.tables[t].Start(stream)
		if !there {
			return [3]int{}, false
		}
		states[t] = at
	}
	return states, true
}

// goOn reads the states that come behind these. It is false if a bit is not
// there.
func (d *decoding) goOn(stream *bits.Stream, states [3]int) ([3]int, bool) {
	order := [3]int{api.LL, api.ML, api.OF}
	for i := 0; i < 3; i++ {
		t := order[i]
		at, there := d.now.tables[t].GoOn(states[t], stream)
		if !there {
			return [3]int{}, false
		}
		states[t] = at
	}
	return states, true
}

// readSequence reads the values of the codes that the states say. It is false
// if a bit is not there.
func (d *decoding) readSequence(stream *bits.Stream, states [3]int) (sequence, bool) {
	offset, there := d.readValue(stream, api.OF, states[api.OF])
	if !there {
		return sequence{}, false
	}
	match, there := d.readValue(stream, api.ML, states[api.ML])
	if !there {
		return sequence{}, false
	}
	literals, there := d.readValue(stream, api.LL, states[api.LL])
	if !there {
		return sequence{}, false
	}
	return sequence{literals: literals, offset: offset, match: match}, true
}

// readValue reads the value of the code that a state of the table t says. It is
// false if a bit is not there.
func (d *decoding) readValue(stream *bits.Stream, t int, at int) (int, bool) {
	code := d.now.tables[t].Symbol(at)
	above, there := stream.Read(codes.More(t, code))
	if !there {
		return 0, false
	}
	return codes.Least(t, code) + above, true
}

// carryOut lets the literals of a sequence come out, and its copy.
func (d *decoding) carryOut(s sequence, literals string) api.Errno {
	e := d.makeRoom(len(literals) + s.match)
	if e != api.OK {
		return e
	}
	d.out = append(d.out, literals...)
	back := d.now.last.Meant(s.offset, s.literals)
	if back < 1 || back > len(d.out)-d.now.begin || back > d.now.window {
		return api.ErrOffset
	}
	d.now.last.Use(s.offset, s.literals)
	// Byte by byte, since a copy may run into what it copies.
	for i := 0; i < s.match; i++ {
		b := d.out[len(d.out)-back]
		d.out = append(d.out, b)
	}
	return api.OK
}
