package encode_test

import (
	"bytes"
	"math/rand/v2"
	"testing"

	"lighterman/api"
	"lighterman/encode"
)

// chanced are bytes of chance, of pieces of so many bytes at most: fresh ones, such as stood already, and such as are alike.
func chanced(c *rand.Rand, pieces, most int) []byte {
	var b []byte
	kinds := 1 + c.IntN(256)
	if c.IntN(2) == 0 {
		kinds = 1 + c.IntN(20)
	}
	// Few kinds of pieces, so that now and then bytes go on as they were.
	pick := []int{c.IntN(8), c.IntN(8), c.IntN(8)}
	for range c.IntN(pieces) {
		n := c.IntN(1 + c.IntN(most))
		switch pick[c.IntN(len(pick))] {
		case 0:
			b = append(b, few(c, n, kinds)...)
		case 1:
			b = append(b, each(n, byte(c.IntN(kinds)))...)
		case 2:
			b = append(b, letters(c, n)...)
		case 3:
			b = append(b, words(c, n)...)
		case 4:
			b = append(b, records(c, n, 1+c.IntN(90))...)
		case 5:
			b = append(b, noise(c, n)...)
		default:
			if len(b) == 0 {
				continue
			}
			at := c.IntN(len(b))
			for range n { // and on into what is just laid
				b = append(b, b[at])
				at++
			}
		}
	}
	return b
}

func TestChance(t *testing.T) {
	rounds := 4000
	if testing.Short() {
		rounds = 500
	}
	c := chance(31)
	for range rounds {
		wantFrame(t, chanced(c, 20, 400), c.IntN(10), c.IntN(2) == 0)
	}
}

// Frames of several blocks.
func TestChanceOfBlocks(t *testing.T) {
	rounds := 60
	if testing.Short() {
		rounds = 6
	}
	c := chance(32)
	var kinds, texts [4]int
	blocks, copies, again := 0, 0, 0
	for range rounds {
		_, a := wantFrame(t, chanced(c, 25, 90000), c.IntN(10), c.IntN(2) == 0)
		for _, x := range a.blocks {
			blocks++
			kinds[x.kind]++
			if x.kind == packedBlock {
				texts[x.text]++
			}
			copies += len(x.offsets)
			again += repeated(x)
		}
	}
	if testing.Short() {
		return
	}
	for _, n := range []int{kinds[rawBlock], kinds[packedBlock], texts[rawText], texts[freshText], texts[knownText], copies / 100, again / 100} {
		if n < 5 {
			t.Errorf("of some form there are too few: of %d blocks kinds %v, literals %v, %d copies, %d by repeated offsets", blocks, kinds, texts, copies, again)
		}
	}
}

// Numbers that are handed in by chance, and now and then wrong ones.
func TestArgumentsOfChance(t *testing.T) {
	c := chance(33)
	for range 2000 {
		b, level := chanced(c, 5, 50), c.IntN(40)-15
		if level < 0 || level > mostLevel {
			wantRefused(t, b, level, api.ErrArg)
			continue
		}
		wantFrame(t, b, level, c.IntN(2) == 0)
	}
}

// Calls in between change nothing.
func TestNothingIsKept(t *testing.T) {
	c := chance(34)
	var all, first [][]byte
	for i := range 100 {
		b := chanced(c, 12, 300)
		x, _ := wantFrame(t, b, i%10, i%3 == 0)
		all, first = append(all, b), append(first, x)
	}
	for range 500 {
		i := c.IntN(len(all))
		if x, err := encode.Encode(all[i], i%10, i%3 == 0); err != api.OK || !bytes.Equal(x, first[i]) {
			t.Errorf("%s, later: another frame", call(all[i], i%10, i%3 == 0))
		}
	}
}
