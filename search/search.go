// Package search cuts a content into literals and copies of what stands ahead
// of them (P16).
package search

// least is how many bytes a copy has at least: one of three bytes, which could
// be told too, seldom takes less room than its bytes do.
const least = 4

// none stands for a place that is not there.
const none = -1

// Copy is bytes that stand ahead of their place, too.
type Copy struct {
	Literals int // that come out between the copy ahead and this one
	Distance int // how far back it goes
	Length   int
}

// Finder finds copies in a content.
type Finder struct {
	src    string
	window int   // the greatest distance
	looks  int   // how many places a search looks at
	ahead  []int // of each place one ahead of it where the same bytes may begin
}

// Open makes a finder of copies in src.
func Open(src string, window int, looks int) Finder {
	f := Finder{src: src, window: window, looks: looks}
	if looks > 0 {
		f.ahead = linked(src)
	}
	return f
}

// buckets is how many places are told apart by the bytes that begin there.
const buckets = 1 << 12

// linked tells of each place of src the nearest one ahead of it in the same
// bucket. Where too few bytes are left for a copy there is none.
func linked(src string) []int {
	nearest := []int{}
	for i := 0; i < buckets; i++ {
		nearest = append(nearest, none)
	}
	ahead := []int{}
	for place := 0; place+least <= len(src); place++ {
		b := bucket(src[place : place+least])
		ahead = append(ahead, nearest[b])
		nearest[b] = place
	}
	return ahead
}

// bucket is the same for the same bytes, and seldom for others.
func bucket(begin string) int {
	b := 0
	for i := 0; i < len(begin); i++ {
		b = (61*b + int(begin[i])) % buckets
	}
	return b
}

// Cut cuts what stands from begin up to end: its literals, and its copies.
func (f *Finder) Cut(begin int, end int) (string, []Copy) {
	literals := []byte{}
	copies := []Copy{}
	since := 0
	place := begin
	for place < end {
		c := f.find(place, end)
		if c.Length < least {
			literals = append(literals, f.src[place])
			since++
			place++
			continue
		}
		c.Literals = since
		copies = append(copies, c)
		since = 0
		place += c.Length
	}
	return string(literals), copies
}

// find is the longest copy at a place that is found at as many places as the
// search looks at, the nearest of these; its length is 0 where there is none.
// Places that are there for their bucket alone do not count as looked at.
func (f *Finder) find(place int, end int) Copy {
	best := Copy{}
	looks := f.looks
	at := f.before(place)
	for at != none && looks > 0 && place-at <= f.window {
		n := f.alike(at, place, end)
		if n >= least {
			looks--
		}
		if n >= least && n > best.Length {
			best = Copy{Distance: place - at, Length: n}
		}
		at = f.before(at)
	}
	return best
}

// before is the nearest place ahead where the same bytes may begin, or none.
func (f *Finder) before(place int) int {
	if place >= len(f.ahead) {
		return none
	}
	return f.ahead[place]
}

// alike is how many bytes from at on are as those from place on up to end. They
// may run into these.
func (f *Finder) alike(at int, place int, end int) int {
	n := 0
	for place+n < end && f.src[at+n] == f.src[place+n] {
		n++
	}
	return n
}
