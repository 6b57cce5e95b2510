package match_test

import (
	"math/rand/v2"
	"testing"
)

// chanced are bytes of chance, laid of pieces: fresh ones, such as stood already, and such as are alike.
func chanced(c *rand.Rand) string {
	var b []byte
	kinds := 1 + c.IntN(256)
	if c.IntN(2) == 0 {
		kinds = 1 + c.IntN(4)
	}
	for range c.IntN(30) {
		n := c.IntN(1 + c.IntN(60))
		switch c.IntN(4) {
		case 0:
			b = append(b, few(c, n, kinds)...)
		case 1:
			b = append(b, each(n, byte(c.IntN(kinds)))...)
		default:
			if len(b) == 0 {
				continue
			}
			at := c.IntN(len(b))
			for range n { // and on into what is just laid
				b = append(b, b[at])
				at++
			}
		}
	}
	return string(b)
}

// Every number that is handed in by chance, and now and then a wrong one.
func TestChance(t *testing.T) {
	times := 100000
	if testing.Short() {
		times = 10000
	}
	c := chance(21)
	var copies, into, joined, ahead, refused int
	for range times {
		b := chanced(c)
		near := func() int { return c.IntN(len(b)+3) - 1 }
		p, level := part{b, near(), near()}, c.IntN(mostLevel+3)-1
		if p.from < 0 || p.from > p.to || p.to > len(b) || level < 0 || level > mostLevel {
			wantErrArg(t, p, level)
			refused++
			continue
		}
		at := p.from
		for i, s := range wantPlan(t, p, level).l {
			at += int(s.Literals)
			copies++
			if s.Offset < s.Match {
				into++
			}
			if i > 0 && s.Literals == 0 {
				joined++
			}
			if at-int(s.Offset) < p.from {
				ahead++
			}
			at += int(s.Match)
		}
	}
	for _, n := range []int{copies, into, joined, ahead, refused} {
		if n < times/30 {
			t.Errorf("of some form there are too few: %d copies, %d into themselves, %d behind others, %d from ahead of the part; %d refused", copies, into, joined, ahead, refused)
		}
	}
}

// Calls in between change nothing.
func TestNothingIsKept(t *testing.T) {
	c := chance(22)
	var parts []part
	var first []plan
	for range 200 {
		b := chanced(c)
		p := behind(b, c.IntN(len(b)+1))
		parts, first = append(parts, p), append(first, wantPlan(t, p, 5))
	}
	for i, p := range parts {
		if got := wantPlan(t, p, 5); !got.is(first[i]) {
			t.Errorf("%v, later: %v; at first %v", p, got, first[i])
		}
	}
}
