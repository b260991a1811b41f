// Package distance keeps the last three distances of copies (P10).
package distance

// known: the values of offsets up to this one mean one of the last three.
const known = 3

// Last is the last three distances, the one that was used last first.
type Last struct {
	first  int
	second int
	third  int
}

// Begin is the distances with which a frame begins.
func Begin() Last {
	return Last{first: 1, second: 4, third: 8}
}

// The places of a value among the last three distances.
const (
	noPlace     = 0
	firstPlace  = 1
	secondPlace = 2
	thirdPlace  = 3
)

// placeOf is the place of an offset's value v behind so many literals. Behind
// none the first distance would only go on with the copy ahead, so the values
// mean one place further; the place behind the third is the first less one.
func placeOf(v int, literals int) int {
	if v > known {
		return noPlace
	}
	if literals == 0 {
		return v + 1
	}
	return v
}

// Meant is the distance that an offset's value v, from 1 on, means behind so
// many literals.
func (l *Last) Meant(v int, literals int) int {
	switch placeOf(v, literals) {
	case noPlace:
		return v - known
	case firstPlace:
		return l.first
	case secondPlace:
		return l.second
	case thirdPlace:
		return l.third
	}
	return l.first - 1
}

// Use makes the distance that v means the first.
func (l *Last) Use(v int, literals int) {
	used := l.Meant(v, literals)
	place := placeOf(v, literals)
	if place == firstPlace {
		return
	}
	if place != secondPlace {
		l.third = l.second
	}
	l.second = l.first
	l.first = used
}

// Outright is the value of an offset that means d whatever the last three are.
func Outright(d int) int {
	return d + known
}

// Told is the value of an offset that means d behind so many literals: the
// least of those that mean one of the last three, where one does.
func (l *Last) Told(d int, literals int) int {
	for v := 1; v <= known; v++ {
		if l.Meant(v, literals) == d {
			return v
		}
	}
	return Outright(d)
}
