package encode_test

import (
	"bytes"
	"fmt"
	"math/rand/v2"
	"slices"
	"testing"

	"lighterman/api"
	"lighterman/decode"
	"lighterman/encode"
)

// What all tests of the package make bytes with, and hold frames against.

const (
	mostLevel = 9
	mostBlock = 131072
	mostBytes = 4194304
)

// then are lists one behind the other.
func then(lists ...[]byte) []byte { return slices.Concat(lists...) }

// each is a list of n times the same byte.
func each(n int, c byte) []byte { return bytes.Repeat([]byte{c}, n) }

// chance are numbers of chance, the same ones for the same seed.
func chance(seed uint64) *rand.Rand { return rand.New(rand.NewPCG(18, seed)) }

// few are n bytes of chance, of so many kinds.
func few(c *rand.Rand, n, kinds int) []byte {
	b := make([]byte, n)
	for i := range b {
		b[i] = byte(c.IntN(kinds))
	}
	return b
}

// noise are n bytes of chance, of all kinds.
func noise(c *rand.Rand, n int) []byte { return few(c, n, 256) }

// letters are n bytes of chance, some of which are far rarer than others.
func letters(c *rand.Rand, n int) []byte {
	b := make([]byte, n)
	for i := range b {
		b[i] = 'a' + byte(min(c.IntN(26), c.IntN(26), c.IntN(26)))
	}
	return b
}

// words are n bytes of text, of few words.
func words(c *rand.Rand, n int) []byte {
	var all [][]byte
	for range 200 {
		all = append(all, append(letters(c, 1+c.IntN(9)), ' '))
	}
	var b []byte
	for len(b) < n {
		b = append(b, all[min(c.IntN(200), c.IntN(200))]...)
	}
	return b[:n]
}

// records are n bytes of rows, each as long as the one ahead, and alike but for a few bytes.
func records(c *rand.Rand, n, long int) []byte {
	row := letters(c, long)
	var b []byte
	for len(b) < n {
		row[c.IntN(long)] = byte(c.IntN(128))
		b = append(b, row...)
	}
	return b[:n]
}

// bound is how many bytes a frame of n may have, as P18.2 says.
func bound(n int) int {
	most := n + 18
	for at := 0; at < n; at += mostBlock {
		most += 6
	}
	return most
}

// call tells a call.
func call(b []byte, level int, sum bool) string {
	return fmt.Sprintf("Encode(%d bytes %.40q, %d, %v)", len(b), b, level, sum)
}

// faultOf is why bytes are no frame of others, as the promises have it; empty, if they are.
func faultOf(b, x []byte) string {
	if len(x) > bound(len(b)) {
		return fmt.Sprintf("%d bytes, more than %d", len(x), bound(len(b)))
	}
	made, err := decode.Decode(x, 22, len(b))
	if err != api.OK || !bytes.Equal(made, b) {
		return fmt.Sprintf("decoded to %d bytes, error %d", len(made), int(err))
	}
	if frames, skipped, err := decode.Frames(x, 22, len(b)); frames != 1 || skipped != 0 || err != api.OK {
		return fmt.Sprintf("%d frames, %d skipped, error %d", frames, skipped, int(err))
	}
	return ""
}

// faultOfAnother is why another decoder doesn't read bytes as others; empty, if it does. What it saw is answered, too.
func faultOfAnother(b, x []byte, sum bool) (anatomy, string) {
	a, why := another(x)
	switch {
	case why != "":
		return a, "to another decoder: " + why
	case !bytes.Equal(a.made, b):
		return a, "to another decoder other bytes"
	case a.sum != sum:
		return a, fmt.Sprintf("its head tells of a sum: %v", a.sum)
	}
	return a, ""
}

// wantFrame fails, unless bytes become a frame, the same once more and wherever they stand, and are left as they are; it is that.
func wantFrame(t *testing.T, b []byte, level int, sum bool) ([]byte, anatomy) {
	t.Helper()
	memory := then(b, []byte("behind all")) // with room behind
	given, ahead := memory[:len(b)], bytes.Clone(memory)
	x, err := encode.Encode(given, level, sum)
	if err != api.OK {
		t.Fatalf("%s: error %d", call(b, level, sum), int(err))
	}
	if fault := faultOf(b, x); fault != "" {
		t.Fatalf("%s: %s", call(b, level, sum), fault)
	}
	a, fault := faultOfAnother(b, x, sum)
	if fault != "" {
		t.Fatalf("%s: %s", call(b, level, sum), fault)
	}
	kept := bytes.Clone(x)
	again, _ := encode.Encode(slices.Clip(given), level, sum)
	if !bytes.Equal(again, x) {
		t.Errorf("%s, once more, without room behind: another frame", call(b, level, sum))
	}
	clear(again[:cap(again)])
	if !bytes.Equal(memory, ahead) || !bytes.Equal(x, kept) {
		t.Errorf("%s: what was handed in was changed, or shares memory with the answer", call(b, level, sum))
	}
	clear(memory)
	if !bytes.Equal(x, kept) {
		t.Errorf("%s: the answer changes with what was handed in", call(b, level, sum))
	}
	return kept, a
}

// wantFrames fails, unless bytes become frames of each level, with a sum and without.
func wantFrames(t *testing.T, b []byte) {
	t.Helper()
	for level := range mostLevel + 1 {
		wantFrame(t, b, level, level%2 == 0)
	}
	wantFrame(t, b, 0, false)
	wantFrame(t, b, 6, false)
	wantFrame(t, b, 9, true)
}

// wantRefused fails, unless bytes are refused, with nothing beside the error.
func wantRefused(t *testing.T, b []byte, level int, want api.Errno) {
	t.Helper()
	for _, sum := range []bool{false, true} {
		if x, err := encode.Encode(b, level, sum); err != want || len(x) > 0 {
			t.Errorf("%s: %d bytes, error %d; want error %d alone", call(b, level, sum), len(x), int(err), int(want))
		}
	}
}
