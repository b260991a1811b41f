package decode

import (
	"frames/api"
	"frames/bits"
	"frames/codes"
	"frames/layout"
	"frames/table"
)

// readTables reads the modes of a block's three tables, and the tables.
func (d *decoding) readTables(in *reader) api.Errno {
	modes, there := in.number(1)
	if !there || modes&3 != 0 {
		return api.ErrSeqs
	}
	for t := 0; t < 3; t++ {
		mode := int(modes>>layout.ModeShift(t)) & 3
		fit := d.readTable(in, t, mode)
		if !fit {
			return api.ErrTable
		}
	}
	return api.OK
}

// readTable reads the table t by its mode. It is false if there is none.
func (d *decoding) readTable(in *reader, t int, mode int) bool {
	fit := true
	switch mode {
	case layout.UsualMode:
		d.now.tables[t] = table.Lay(codes.Usual(t))
	case layout.OneMode:
		fit = d.readOne(in, t)
	case layout.HeadMode:
		fit = d.readLaid(in, t)
	default:
		return d.now.hasTable[t]
	}
	d.now.hasTable[t] = fit
	return fit
}

// readOne reads a table of one state.
func (d *decoding) readOne(in *reader, t int) bool {
	code, there := in.number(1)
	if !there || int(code) > api.Top(t) {
		return false
	}
	d.now.tables[t] = table.One(int(code))
	return true
}

// readLaid reads a table that is told by its head.
func (d *decoding) readLaid(in *reader, t int) bool {
	from := bits.OpenForward(in.rest)
	h, fit := table.ReadHead(&from, api.Log(t), api.Top(t))
	if !fit {
		return false
	}
	in.rest = from.Rest()
	d.now.tables[t] = table.Lay(h)
	return true
}
