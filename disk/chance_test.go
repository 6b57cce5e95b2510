package disk_test

import (
	"math/rand/v2"
	"strings"
	"testing"

	"lighterman/api"
)

// Calls of chance, held against the chapter's words.

// name is one of chance; few may not be.
func name(c *rand.Rand) string {
	names := []string{"a", "b", "c", "d", strings.Repeat("e", mostName), strings.Repeat("f", mostName+1), ""}
	if c.IntN(12) > 0 {
		names = names[:5]
	}
	return names[c.IntN(len(names))]
}

// some is a call of chance, that may have an error of its own.
func (x *both) some(c *rand.Rand) act {
	name, other := name(c), name(c)
	switch c.IntN(12) {
	default:
		size := len(x.w.seen()[name])
		at := c.IntN(size + 1)
		switch c.IntN(4) {
		case 0:
			at = size
		case 1:
			at = c.IntN(size+4) - 1
		}
		return write(name, at, noise(c, c.IntN(9)))
	case 0, 1, 2, 3:
		return rename(name, other)
	case 4, 5:
		return remove(name)
	}
}

// fine is one that has none.
func (x *both) fine(c *rand.Rand) act {
	for {
		if a := x.some(c); x.w.wrong(a) == api.OK {
			return a
		}
	}
}

func TestCallsOfChance(t *testing.T) {
	runs := 3000
	if testing.Short() {
		runs = 300
	}
	c := chance(20)
	errors := map[api.Errno]int{}
	for range runs {
		x := begun(t, []int{0, 5, 20, 60}[c.IntN(4)])
		for range 60 {
			switch c.IntN(30) {
			case 0:
				x.stop(c.IntN(8) - 1)
			case 1:
				keep := make([]bool, max(0, len(x.w.under)+c.IntN(5)-2))
				for k := range keep {
					keep[k] = c.IntN(2) == 0
				}
				x.crash(keep...)
			case 2, 3:
				errors[x.w.wrong(sync())]++
				x.do(sync())
			default:
				a := x.some(c)
				errors[x.w.wrong(a)]++
				x.do(a)
			}
		}
	}
	for _, err := range []api.Errno{api.OK, api.ErrArg, api.ErrRange, api.ErrDown, api.ErrNone, api.ErrSpace} {
		if errors[err] < runs/3 {
			t.Errorf("error %d only %d times", int(err), errors[err])
		}
	}
}
