package codes

import (
	"testing"

	"frames/api"
)

// TestOf: the first and the last value of each code, and those between.
func TestOf(t *testing.T) {
	for kind := range 3 {
		for code := range api.Top(kind) + 1 {
			least, n := Least(kind, code), 1<<More(kind, code)
			for _, v := range []int{least, least + n/2, least + n - 1} {
				if got := Of(kind, v); got != code {
					t.Errorf("P10: table %d: %d is of code %d, want %d", kind, v, got, code)
				}
			}
		}
	}
}
