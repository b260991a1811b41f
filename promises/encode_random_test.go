package promises

import (
	"math/rand"
	"testing"

	"frames/api"
)

// mixed is n bytes below top, of which many come again, from any distance.
func mixed(n, top int, seed int64) string {
	return mix(rand.New(rand.NewSource(seed)), n, top)
}

// mix is n bytes below top: bytes drawn at random, and copies, of which many go
// as far back as one of the last did, or one less.
func mix(r *rand.Rand, n, top int) string {
	var b []byte
	backs := []int{1, 4, 8}
	for len(b) < n {
		for k := r.Intn(2) * r.Intn(12); k > 0; k-- {
			b = append(b, byte(r.Intn(top)))
		}
		back := 1 + r.Intn(len(b)+1)
		switch r.Intn(4) {
		case 0:
			back = backs[len(backs)-1-r.Intn(3)]
		case 1:
			back = backs[len(backs)-1] - 1
		}
		if back < 1 || back > len(b) {
			continue
		}
		length := 3 + r.Intn(9)
		if r.Intn(12) == 0 {
			length = r.Intn(600)
		}
		for ; length > 0; length-- {
			b = append(b, b[len(b)-back])
		}
		backs = append(backs, back)
	}
	return string(b[:n])
}

// randomList is members of 0 to top.
func randomList(r *rand.Rand, top int) []int {
	n := 1 + r.Intn(3)
	if r.Intn(8) == 0 {
		n = 1 + r.Intn(api.MaxList)
	}
	var l []int
	for range n {
		l = append(l, r.Intn(top+1))
	}
	return l
}

// randomChoice is a choice that asks for compressed blocks as a rule.
func randomChoice(r *rand.Rand, n int) api.Choice {
	ch := api.Choice{
		Block: 1 + r.Intn(n+9), Types: []int{2}, Lits: randomList(r, 5), Modes: randomList(r, 63), Window: r.Intn(64),
		Single: r.Intn(2), Size: r.Intn(2), Check: r.Intn(2), Reps: r.Intn(2), Search: r.Intn(33),
	}
	if r.Intn(3) == 0 {
		ch.Types = randomList(r, 2)
	}
	if r.Intn(3) == 0 {
		ch.Block = 20 + r.Intn(200)
	}
	if r.Intn(3) == 0 {
		ch.Window = r.Intn(8)
	}
	if r.Intn(8) == 0 {
		ch.Search = 0
	}
	return ch
}

// randomContent is at most n bytes, of all sorts.
func randomContent(r *rand.Rand, n int) string {
	n = r.Intn(n + 1)
	switch r.Intn(6) {
	case 0:
		b := make([]byte, n)
		r.Read(b)
		return string(b)
	case 1:
		return long(n)
	case 2:
		return xs(n/2) + ys(n-n/2)
	}
	return mix(r, n, []int{2, 5, 26, 128, 129, 130, 256}[r.Intn(7)])
}

func TestRandomChoices(t *testing.T) {
	r := rand.New(rand.NewSource(12))
	for i := range 6000 {
		top := 500
		if i%10 == 0 {
			top = api.MaxSrc
		}
		src := randomContent(r, top)
		encoded(t, src, randomChoice(r, len(src)))
	}
}
