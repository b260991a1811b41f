// Package promises holds the document's promises against the calls of package
// frames, and knows nothing of how they are kept.
package promises

import (
	"strings"
	"testing"

	"frames/api"
	"frames/frames"
)

const magic = "\x28\xb5\x2f\xfd"

// little is v as a number of n bytes.
func little(v uint64, n int) string {
	b := make([]byte, n)
	for i := range b {
		b[i] = byte(v >> (8 * i))
	}
	return string(b)
}

// block is a block of any kind; last is 0 or 1.
func block(last, kind, n int, body string) string {
	return little(uint64(last|kind<<1|n<<3), 3) + body
}

func raw(last int, body string) string {
	return block(last, 0, len(body), body)
}

func same(last int, b string, n int) string {
	return block(last, 1, n, b)
}

// passed is something that is passed over, with the k-th of the 16 numbers.
func passed(k int, body string) string {
	return little(uint64(0x184D2A50+k), 4) + little(uint64(len(body)), 4) + body
}

// check is the checksum as it stands at the end of a frame.
func check(content string) string {
	return little(sumOf(content)&0xFFFFFFFF, 4)
}

// open is the head of a frame that tells nothing but the window of w.
func open(w int) string {
	return magic + "\x00" + little(uint64(w), 1)
}

// cut is s less its last n bytes.
func cut(s string, n int) string {
	return s[:len(s)-n]
}

// row: what Decode is asked and what it must answer.
type row struct {
	name  string
	in    string
	limit int
	out   string
	e     api.Errno
}

func short(s string) string {
	if len(s) > 40 {
		return s[:40] + ".."
	}
	return s
}

// hold asks each row with several slacks, each of a decoder of its own.
func hold(t *testing.T, promise string, rows []row) {
	t.Helper()
	for _, r := range rows {
		for _, slack := range []int{0, 1, 63, api.MaxSlack} {
			out, e := frames.NewDecoder().Decode(r.in, r.limit, slack)
			if out != r.out || e != r.e {
				t.Errorf("%s: %s: Decode(%x, %d, %d) = %q (%d bytes), %d, want %q (%d bytes), %d",
					promise, r.name, short(r.in), r.limit, slack, short(out), len(out), e, short(r.out), len(r.out), r.e)
			}
		}
	}
}

func xs(n int) string {
	return strings.Repeat("x", n)
}

func ys(n int) string {
	return strings.Repeat("y", n)
}
