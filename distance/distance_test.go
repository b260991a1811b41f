package distance

import "testing"

// TestTold: a value that is told means the distance, and it is the least of
// those that do.
func TestTold(t *testing.T) {
	for _, l := range []Last{Begin(), {20, 30, 40}, {5, 5, 4}, {5, 4, 5}, {9, 8, 8}, {7, 7, 7}, {1, 1, 1}, {2, 1, 3}} {
		for literals := range 3 {
			for d := 1; d < 50; d++ {
				v := l.Told(d, literals)
				if got := l.Meant(v, literals); got != d {
					t.Errorf("P15: %v, %d literals: %d is told by %d, which means %d", l, literals, d, v, got)
				}
				for less := 1; less <= known; less++ {
					if less < v && l.Meant(less, literals) == d {
						t.Errorf("P15: %v, %d literals: %d is told by %d, though %d means it", l, literals, d, v, less)
					}
				}
				if v > known && v != d+3 || Outright(d) != d+3 {
					t.Errorf("P15: %d is told by %d, outright by %d", d, v, Outright(d))
				}
			}
		}
	}
}
