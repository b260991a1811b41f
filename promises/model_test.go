package promises

import (
	"encoding/binary"
	"math/bits"
	"strings"

	"frames/api"
)

// sumOf is the checksum by the words of P4, of all bytes at once.
func sumOf(s string) uint64 {
	var a, b, c, d, e uint64 = 0x9E3779B185EBCA87, 0xC2B2AE3D27D4EB4F, 0x165667B19E3779F9, 0x85EBCA77C2B2AE63, 0x27D4EB2F165667C5
	lap := func(v, x uint64) uint64 { return bits.RotateLeft64(v+x*b, 31) * a }
	p := []byte(s)
	h := e
	if len(p) >= 32 {
		lanes := []uint64{a + b, b, 0, -a}
		for ; len(p) >= 32; p = p[32:] {
			for k := range lanes {
				lanes[k] = lap(lanes[k], binary.LittleEndian.Uint64(p[8*k:]))
			}
		}
		h = 0
		for k, turn := range []int{1, 7, 12, 18} {
			h += bits.RotateLeft64(lanes[k], turn)
		}
		for _, lane := range lanes {
			h = (h^lap(0, lane))*a + d
		}
	}
	h += uint64(len(s))
	for ; len(p) >= 8; p = p[8:] {
		h = bits.RotateLeft64(h^lap(0, binary.LittleEndian.Uint64(p)), 27)*a + d
	}
	if len(p) >= 4 {
		h = bits.RotateLeft64(h^uint64(binary.LittleEndian.Uint32(p))*a, 23)*b + c
		p = p[4:]
	}
	for _, x := range p {
		h = bits.RotateLeft64(h^uint64(x)*e, 11) * a
	}
	h = (h ^ h>>33) * b
	h = (h ^ h>>29) * c
	return h ^ h>>32
}

// model reads frames by the words of P5 to P11, and stops at the first error by
// a panic of its number.
type model struct {
	s     string
	limit int
	out   []byte
	// Of the frame:
	window, most, before int
	codes                map[string]byte // those of its last tree, as bits
	tables               [3][]place      // its last ones
	last                 []int           // its last three distances
	// Of the block:
	given int
	// What was read so far:
	heads []string // of frames, from the descriptor on
	notes []note   // of the blocks of all frames
}

// note is what was read of a block.
type note struct {
	kind  int    // its type
	n     int    // its number
	said  string // what came out
	lits  string // its literals, their kind and their form
	lkind int
	form  int
	modes [3]int // of its tables, where there are sequences
	seqs  []seq
	backs []int // how far back the sequences go
}

// modelSays is what s says, or the error that is met first.
func modelSays(s string, limit int) (out string, e api.Errno) {
	defer func() {
		if r := recover(); r != nil {
			out, e = "", r.(api.Errno)
		}
	}()
	m := model{s: s, limit: limit}
	for m.s != "" {
		m.next()
	}
	return string(m.out), api.OK
}

func fail(when bool, e api.Errno) {
	if when {
		panic(e)
	}
}

func (m *model) take(n uint64) string {
	fail(n > uint64(len(m.s)), api.ErrCut)
	p := m.s[:n]
	m.s = m.s[n:]
	return p
}

func (m *model) number(n uint64) uint64 {
	var b [8]byte
	copy(b[:], m.take(n))
	return binary.LittleEndian.Uint64(b[:])
}

func (m *model) next() {
	first := m.number(4)
	if first>>4 == 0x184D2A5 {
		m.take(m.number(4))
		return
	}
	fail(first != 0xFD2FB528, api.ErrMagic)
	from := m.s
	d := m.number(1)
	fail(d>>3&1 == 1, api.ErrHead)
	single := d>>5&1 == 1
	var window, size uint64
	told := true
	if !single {
		w := m.number(1)
		window = (8 + w%8) << (7 + w/8)
	}
	dict := m.number([]uint64{0, 1, 2, 4}[d&3])
	switch {
	case d>>6 == 0 && single:
		size = m.number(1)
	case d>>6 == 0:
		told = false
	case d>>6 == 1:
		size = m.number(2) + 256
	default:
		size = m.number(1 << (d >> 6))
	}
	if single {
		window = size
	}
	fail(dict != 0, api.ErrDict)
	fail(window > 134217728, api.ErrWindow)
	m.window, m.most, m.before = int(window), min(int(window), 131072), len(m.out)
	m.codes, m.tables, m.last = nil, [3][]place{}, []int{1, 4, 8}
	m.heads = append(m.heads, from[:len(from)-len(m.s)])
	for m.block() {
	}
	content := string(m.out[m.before:])
	fail(told && size != uint64(len(content)), api.ErrSize)
	if d>>2&1 == 1 {
		fail(m.number(4) != sumOf(content)&0xFFFFFFFF, api.ErrCheck)
	}
}

// block reads a block and tells whether one more comes.
func (m *model) block() bool {
	b := m.number(3)
	kind, n := b>>1&3, b>>3
	fail(kind == 3 || n > uint64(m.most), api.ErrBlock)
	m.given = 0
	m.notes = append(m.notes, note{kind: int(kind), n: int(n)})
	so := len(m.out)
	switch kind {
	case 0:
		m.give(m.take(n))
	case 1:
		m.give(strings.Repeat(m.take(1), int(n)))
	case 2:
		m.compressed(m.take(n))
	}
	m.noting().said = string(m.out[so:])
	return b&1 == 0
}

// noting is the note of the block that is being read.
func (m *model) noting() *note {
	return &m.notes[len(m.notes)-1]
}

// room is P7's errors for n bytes that are to come out.
func (m *model) room(n int) {
	m.given += n
	fail(m.given > m.most, api.ErrBlock)
	fail(len(m.out)+n > m.limit, api.ErrLimit)
}

func (m *model) give(s string) {
	m.room(len(s))
	m.out = append(m.out, s...)
}
