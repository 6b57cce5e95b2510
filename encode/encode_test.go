package encode_test

import (
	"bytes"
	"fmt"
	"math"
	"slices"
	"testing"

	"lighterman/api"
	"lighterman/decode"
	"lighterman/encode"
)

func ExampleEncode() {
	x, err := encode.Encode([]byte{7, 8}, 0, false)
	fmt.Println(x, err == api.OK)
	b := bytes.Repeat([]byte("over and "), 1000)
	x, err = encode.Encode(b, 6, true)
	all, _ := decode.Decode(x, 22, len(b))
	fmt.Println(len(x) < 100, bytes.Equal(all, b), err == api.OK)
	// Output:
	// [40 181 47 253 32 2 17 0 0 7 8] true
	// true true true
}

// P18.1: what may not be

func TestLevelsThatMayNotBe(t *testing.T) {
	for _, b := range [][]byte{nil, {7, 8}, each(1000, 'a'), make([]byte, mostBytes), make([]byte, mostBytes+1)} {
		for _, level := range []int{math.MinInt, math.MinInt32, -10, -9, -2, -1, 10, 11, 19, 22, 100, 256, 1 << 32, math.MaxInt} {
			wantRefused(t, b, level, api.ErrArg)
		}
	}
}

func TestTooManyBytes(t *testing.T) {
	for _, n := range []int{mostBytes + 1, mostBytes + 2, mostBytes + mostBlock, 2 * mostBytes} {
		for level := range mostLevel + 1 {
			wantRefused(t, make([]byte, n), level, api.ErrBig)
		}
	}
}

// P18.1: how many bytes there are

func TestNoBytes(t *testing.T) {
	for level := range mostLevel + 1 {
		for _, sum := range []bool{false, true} {
			ofNil, err := encode.Encode(nil, level, sum)
			ofEmpty, _ := wantFrame(t, []byte{}, level, sum)
			if err != api.OK || !bytes.Equal(ofNil, ofEmpty) {
				t.Error(level, sum, ofNil, err, ofEmpty)
			}
		}
	}
}

// All texts of two kinds of bytes, up to nine of them.
func TestFewBytes(t *testing.T) {
	for n := range 10 {
		for x := range 1 << n {
			b := make([]byte, n)
			for i := range b {
				b[i] = 'a' + byte(x>>i&1)
			}
			wantFrame(t, b, 0, false)
			wantFrame(t, b, 1+x%9, x%3 == 0)
		}
	}
}

func TestEveryByteAlone(t *testing.T) {
	for c := range 256 {
		for n := range 6 {
			wantFrame(t, each(n, byte(c)), c%10, c%3 == 0)
		}
	}
}

// Each number of bytes up to some hundreds: literals in one stream and in four, sizes in one byte and in two.
func TestShortTexts(t *testing.T) {
	c := chance(1)
	for n := range 300 {
		for _, b := range [][]byte{noise(c, n), few(c, n, 2), few(c, n, 20), letters(c, n), words(c, n), each(n, 'a'), records(c, n, 17)} {
			wantFrame(t, b, 0, n%2 == 0)
			wantFrame(t, b, 1+n%9, n%2 == 1)
		}
	}
}

// Where a frame's head has a byte more, a block ends, or streams are more.
func TestEdgesOfSizes(t *testing.T) {
	c := chance(2)
	for _, edge := range []int{256, 512, 1024, 4096, 16384, 65536, 65792, mostBlock, 2 * mostBlock} {
		if testing.Short() && edge > 65792 {
			break
		}
		for n := edge - 1; n <= edge+1; n++ {
			for i, b := range [][]byte{noise(c, n), each(n, 'a'), words(c, n), letters(c, n), few(c, n, 129)} {
				wantFrame(t, b, (n+i)%10, i%2 == 0)
			}
		}
	}
}

func TestMostBytesAreTaken(t *testing.T) {
	for n := mostBytes - 1; n <= mostBytes; n++ {
		b := make([]byte, n)
		x, err := encode.Encode(b, 0, false)
		if fault := faultOf(b, x); err != api.OK || fault != "" {
			t.Errorf("%s: error %d, %s", call(b, 0, false), int(err), fault)
		}
	}
}

func TestMostBytes(t *testing.T) {
	if testing.Short() {
		t.Skip("takes seconds")
	}
	c := chance(3)
	wantFrame(t, words(c, mostBytes), 6, true)
	x := noise(c, 1000)
	for i, b := range [][]byte{
		noise(c, mostBytes), noise(c, mostBytes-1), letters(c, mostBytes-1),
		then(x, each(mostBytes-2000, 0), x), // from the first bytes of all to the last ones
	} {
		level, sum := []int{9, 1, 0, 9}[i], i%2 == 0
		x, err := encode.Encode(b, level, sum)
		if fault := faultOf(b, x); err != api.OK || fault != "" {
			t.Errorf("%s: error %d, %s", call(b, level, sum), int(err), fault)
		}
	}
}

// P18.1: each level

func TestBytesOfManyKinds(t *testing.T) {
	c := chance(4)
	for _, b := range [][]byte{
		noise(c, 3000), letters(c, 3000), words(c, 3000), records(c, 3000, 50), each(3000, 0),
		few(c, 3000, 2), few(c, 3000, 3), few(c, 3000, 128), few(c, 3000, 129), few(c, 3000, 130),
		then(each(1500, 'a'), each(1500, 'b')), then(words(c, 5000), noise(c, 5000), words(c, 5000)),
		words(c, 140000), records(c, 140000, 33), then(letters(c, 140000), each(140000, 'x'), letters(c, 3)),
	} {
		wantFrames(t, b)
	}
}

// P18.1: one, and nothing else

func TestFramesAreWhole(t *testing.T) {
	c := chance(5)
	for _, b := range [][]byte{{}, {7, 8}, each(100, 'a'), words(c, 400), noise(c, 300), each(300000, 'b')} {
		for _, sum := range []bool{false, true} {
			x, _ := wantFrame(t, b, 6, sum)
			for n := 1; n < len(x); n++ {
				if made, err := decode.Decode(x[:n], 22, len(b)); err != api.ErrShort || len(made) > 0 {
					t.Errorf("%s, %d of %d bytes: error %d; want ErrShort", call(b, 6, sum), n, len(x), int(err))
				}
			}
			if len(b) == 0 {
				continue
			}
			if made, err := decode.Decode(x, 22, len(b)-1); err != api.ErrBig || len(made) > 0 {
				t.Errorf("%s, for a byte less: error %d; want ErrBig", call(b, 6, sum), int(err))
			}
		}
	}
}

func TestFramesOneBehindTheOther(t *testing.T) {
	c := chance(6)
	var all, frames []byte
	for i := range 20 {
		b := words(c, c.IntN(2000))
		x, _ := wantFrame(t, b, i%10, i%3 == 0)
		all, frames = append(all, b...), append(frames, x...)
	}
	made, err := decode.Decode(frames, 22, len(all))
	if n, skipped, _ := decode.Frames(frames, 22, len(all)); err != api.OK || !bytes.Equal(made, all) || n != 20 || skipped != 0 {
		t.Error(len(made), n, skipped, err)
	}
}

// P18.1: with a sum, if sum

func TestSums(t *testing.T) {
	c := chance(7)
	for _, b := range [][]byte{{}, {7, 8}, each(100, 'a'), words(c, 400), noise(c, 300), words(c, 200000)} {
		with, _ := wantFrame(t, b, 5, true)
		without, _ := wantFrame(t, b, 5, false)
		for place := len(with) - 4; place < len(with); place++ {
			for bit := range 8 {
				other := bytes.Clone(with)
				other[place] ^= 1 << bit
				if made, err := decode.Decode(other, 22, len(b)); err != api.ErrSum || len(made) > 0 {
					t.Errorf("%s, byte %d of %d changed: error %d; want ErrSum", call(b, 5, true), place, len(with), int(err))
				}
			}
		}
		if len(without) != len(with)-4 || !bytes.Equal(without[5:], with[5:len(with)-4]) {
			t.Errorf("%s: without a sum %d bytes, with one %d", call(b, 5, true), len(without), len(with))
		}
	}
}

// Of nothing the sum begins 99 e9 d8 51, as other programs have it.
func TestSumOfNothing(t *testing.T) {
	x, _ := wantFrame(t, nil, 1, true)
	if want := []byte{40, 181, 47, 253, 36, 0, 1, 0, 0, 0x99, 0xE9, 0xD8, 0x51}; !bytes.Equal(x, want) {
		t.Errorf("%x; want %x", x, want)
	}
}

// P18.2

func TestBound(t *testing.T) {
	for _, c := range [][2]int{
		{math.MinInt, 0}, {math.MinInt32, 0}, {-mostBlock, 0}, {-mostBlock - 1, 0}, {-18, 0}, {-2, 0}, {-1, 0},
		{0, 18}, {1, 25}, {2, 26}, {1000, 1024}, {65536, 65560}, {131071, 131095},
		{131072, 131096}, {131073, 131103}, {262144, 262174}, {262145, 262181}, {4194304, 4194514}, {4194305, 4194521},
		{1 << 30, 1<<30 + 18 + 6<<13}, {1<<31 - 1000000, 1<<31 - 1000000 + 18 + 6*(1<<14-7)},
	} {
		if got := encode.Bound(c[0]); got != c[1] {
			t.Errorf("Bound(%d): %d; want %d", c[0], got, c[1])
		}
	}
	for n := -3; n < 3*mostBlock; n++ {
		want := 0
		if n >= 0 {
			want = n + 18 + 6*int(math.Ceil(float64(n)/mostBlock))
		}
		if got := encode.Bound(n); got != want {
			t.Fatalf("Bound(%d): %d; want %d", n, got, want)
		}
	}
}

// Bytes in which nothing is to be found.
func TestNoiseIsWithinTheBound(t *testing.T) {
	c := chance(8)
	for _, n := range []int{0, 1, 2, 3, 10, 60, 255, 256, 257, 1000, 65791, 65792, 131071, 131072, 131073, 262144, 262145, 1000000} {
		b := noise(c, n)
		for _, level := range []int{0, 1, 9} {
			x, _ := wantFrame(t, b, level, true)
			if len(x) > encode.Bound(n) {
				t.Errorf("%s: %d bytes, more than %d", call(b, level, true), len(x), encode.Bound(n))
			}
		}
	}
}

// P18.3

func TestBytesThatAreAllAlike(t *testing.T) {
	sizes := []int{1000, 1023, 1024, 65791, 65792, mostBlock - 1, mostBlock, mostBlock + 1, 2*mostBlock - 1, 2 * mostBlock, 2*mostBlock + 1, 300000}
	for n := 64; n < 400; n++ {
		sizes = append(sizes, n)
	}
	for _, n := range sizes {
		for level := 1; level <= mostLevel; level++ {
			for _, c := range []byte{0, 'a', 255} {
				b := each(n, c)
				x, _ := wantFrame(t, b, level, level%2 == 0)
				if most := 64 + 32*((n+mostBlock-1)/mostBlock); len(x) >= most {
					t.Errorf("%s: %d bytes; want fewer than %d", call(b, level, level%2 == 0), len(x), most)
				}
			}
		}
	}
}

func TestMostBytesThatAreAllAlike(t *testing.T) {
	if testing.Short() {
		t.Skip("takes seconds")
	}
	for _, level := range []int{1, 6, 9} {
		b := each(mostBytes-level/6, 'a')
		x, err := encode.Encode(b, level, true)
		if fault := faultOf(b, x); err != api.OK || fault != "" || len(x) >= 64+32*32 {
			t.Errorf("%s: %d bytes, error %d, %s", call(b, level, true), len(x), int(err), fault)
		}
	}
}

// Of several ways to tell a block the shortest is taken

// kindsOf are the kinds of a frame's blocks.
func kindsOf(a anatomy) []int {
	var kinds []int
	for _, x := range a.blocks {
		kinds = append(kinds, x.kind)
	}
	return kinds
}

// textsOf are how the literals of a frame's blocks are told, -1 of blocks that aren't packed.
func textsOf(a anatomy) []int {
	var texts []int
	for _, x := range a.blocks {
		if x.kind != packedBlock {
			x.text = -1
		}
		texts = append(texts, x.text)
	}
	return texts
}

func TestKindsOfBlocks(t *testing.T) {
	c := chance(9)
	for _, level := range []int{0, 1, 6, 9} {
		b := then(noise(c, mostBlock), each(mostBlock, 'a'), letters(c, mostBlock), each(mostBlock, 0), noise(c, mostBlock), letters(c, 1000), []byte("x"))
		_, a := wantFrame(t, b, level, true)
		if want := []int{rawBlock, sameBlock, packedBlock, sameBlock, rawBlock, packedBlock}; !slices.Equal(kindsOf(a), want) {
			t.Errorf("level %d: kinds of blocks %v; want %v", level, kindsOf(a), want)
		}
		for i, x := range a.blocks {
			if i < len(a.blocks)-1 && x.makes != mostBlock {
				t.Errorf("level %d: the block %d makes %d bytes", level, i, x.makes)
			}
		}
	}
}

// Two bytes that are alike, and more, are told by one.
func TestFewBytesThatAreAlike(t *testing.T) {
	for n := 2; n < 70; n++ {
		for level := range mostLevel + 1 {
			x, a := wantFrame(t, each(n, 'a'), level, false)
			if len(x) != 6+4 || !slices.Equal(kindsOf(a), []int{sameBlock}) {
				t.Errorf("%d bytes, level %d: %x", n, level, x)
			}
		}
	}
}

// No block has more bytes than it makes.
func TestNoBlockIsLongerThanItsBytes(t *testing.T) {
	c := chance(10)
	for range 300 {
		b := then(noise(c, c.IntN(50)), few(c, c.IntN(50), 1+c.IntN(10)), each(c.IntN(10), 'a'))
		level := c.IntN(10)
		if x, _ := wantFrame(t, b, level, false); len(x) > 4+2+3+len(b) {
			t.Errorf("%s: %d bytes", call(b, level, false), len(x))
		}
	}
}

// Copies are left out, if the bytes take less as they are: of one block no level has more bytes than that without copies.
func TestNoLevelIsLongerThanNoCopies(t *testing.T) {
	c := chance(11)
	fewer := 0
	for range 200 {
		n := 1 + c.IntN(6000)
		b := [][]byte{noise(c, n), few(c, n, 2+c.IntN(5)), letters(c, n), words(c, n), records(c, n, 40)}[c.IntN(5)]
		without, _ := wantFrame(t, b, 0, false)
		with, _ := wantFrame(t, b, 1+c.IntN(9), false)
		switch {
		case len(with) > len(without):
			t.Errorf("%d bytes %.40q: %d with copies, %d without", n, b, len(with), len(without))
		case len(with) < len(without):
			fewer++
		}
	}
	if fewer < 40 {
		t.Errorf("only %d have fewer bytes with copies", fewer)
	}
	// Copies of four bytes, each from afar, take more than four of these bytes.
	b := few(c, 100000, 4)
	without, _ := wantFrame(t, b, 0, false)
	with, a := wantFrame(t, b, 1, false)
	if len(with) > len(without) || len(a.blocks[0].offsets) > 0 {
		t.Errorf("%d with %d copies, %d without", len(with), len(a.blocks[0].offsets), len(without))
	}
}

func TestCopiesMakeFramesShort(t *testing.T) {
	c := chance(12)
	x := noise(c, 1000)
	for _, w := range []struct {
		b    []byte
		most int
	}{
		{bytes.Repeat([]byte("abc"), 100), 40},
		{bytes.Repeat([]byte("abcdefghij"), 20000), 80},
		{then(x, x, x, x, x), 1060},
		{then(x, each(200000, 0), x), 1080},
		{words(c, 100000), 50000},
		{records(c, 100000, 50), 30000},
	} {
		for level := 1; level <= mostLevel; level++ {
			if x, _ := wantFrame(t, w.b, level, true); len(x) > w.most {
				t.Errorf("%s: %d bytes; want at most %d", call(w.b, level, true), len(x), w.most)
			}
		}
	}
}

// A block copies from those ahead, whatever they are told by.
func TestCopiesFromBlocksAhead(t *testing.T) {
	c := chance(13)
	x := noise(c, mostBlock)
	for level := 1; level <= mostLevel; level++ {
		y, a := wantFrame(t, then(x, x[:mostBlock-1], []byte("!"), x[5:]), level, true)
		if want := []int{rawBlock, packedBlock, packedBlock}; !slices.Equal(kindsOf(a), want) || len(y) > mostBlock+150 {
			t.Errorf("level %d: %d bytes, kinds of blocks %v", level, len(y), kindsOf(a))
		}
	}
}

func TestCopiesOfAWholeBlock(t *testing.T) {
	c := chance(14)
	x := noise(c, mostBlock)
	for level := 1; level <= mostLevel; level++ {
		_, a := wantFrame(t, then(x, x), level, true)
		if last := a.blocks[1]; last.literal != 0 || !slices.Equal(last.matches, []int{mostBlock}) {
			t.Errorf("level %d: %+v; want one copy of the whole", level, last)
		}
	}
}

// P18.1: literals

func TestLiteralsByFreshAndKnownWeights(t *testing.T) {
	c := chance(15)
	b := then(letters(c, mostBlock), letters(c, mostBlock), each(mostBlock, 'q'), noise(c, mostBlock), letters(c, mostBlock), few(c, mostBlock, 20), letters(c, 300))
	x, a := wantFrame(t, b, 0, true)
	if want := []int{freshText, knownText, -1, -1, knownText, freshText, freshText}; !slices.Equal(textsOf(a), want) {
		t.Errorf("%d bytes, literals %v; want %v", len(x), textsOf(a), want)
	}
}

// Weights that count already are taken for few literals only if all of these have codes.
func TestKnownWeightsThatLackCodes(t *testing.T) {
	c := chance(16)
	b := then(letters(c, mostBlock), letters(c, 200), []byte("Z"))
	if _, a := wantFrame(t, b, 0, false); a.blocks[1].text == knownText {
		t.Errorf("literals %v", textsOf(a))
	}
	b = b[:len(b)-1]
	if _, a := wantFrame(t, b, 0, false); a.blocks[1].text != knownText {
		t.Errorf("literals %v; want known weights", textsOf(a))
	}
}

// Fresh weights that aren't taken, as they take more, don't count.
func TestWeightsThatAreNotTakenDoNotCount(t *testing.T) {
	c := chance(17)
	x := noise(c, mostBlock)
	odd := then(x[:mostBlock-20], []byte("few literals, unlike")) // one copy, and literals as they are
	b := then(letters(c, mostBlock), x, odd, letters(c, mostBlock), letters(c, 100))
	for _, level := range []int{1, 6, 9} {
		_, a := wantFrame(t, b, level, true)
		if want := []int{freshText, -1, rawText, knownText, knownText}; !slices.Equal(textsOf(a), want) {
			t.Errorf("level %d: literals %v; want %v", level, textsOf(a), want)
		}
	}
}

// Literals that are all alike are told by one of them; weights go on behind.
func TestLiteralsThatAreAlike(t *testing.T) {
	c := chance(18)
	x := noise(c, mostBlock)
	b := bytes.Clone(x)
	for at := 0; at < len(b); at += 1000 {
		if b[at] == '!' {
			x[at] = '?'
		}
		b[at] = '!'
	}
	for _, level := range []int{1, 6, 9} {
		_, a := wantFrame(t, then(letters(c, mostBlock), x, b, letters(c, 300)), level, false)
		if want := []int{freshText, -1, sameText, knownText}; !slices.Equal(textsOf(a), want) || a.blocks[2].literal < 100 {
			t.Errorf("level %d: literals %v; want %v", level, textsOf(a), want)
		}
	}
}

// Bytes of which weights can't be described stay as they are, if nothing is copied.
func TestBytesWhoseWeightsAreNotDescribed(t *testing.T) {
	c := chance(19)
	b := letters(c, 5000)
	for i, last := range []byte{127, 128, 129, 255} {
		b[2500] = last
		x, a := wantFrame(t, b, 0, false)
		packed := len(x) < 4000 && a.blocks[0].kind == packedBlock
		if want := i < 2; packed != want {
			t.Errorf("up to the byte %d: %d bytes, kinds of blocks %v", last, len(x), kindsOf(a))
		}
	}
}

// Offsets that are repeated

// repeated is how many of a block's Offsets are repeated ones.
func repeated(x seen) int {
	n := 0
	for _, told := range x.offsets {
		if told <= 3 {
			n++
		}
	}
	return n
}

func TestOffsetsAreRepeated(t *testing.T) {
	c := chance(20)
	b := records(c, 5000, 100)
	for level := 1; level <= mostLevel; level++ {
		_, a := wantFrame(t, b, level, true)
		if x := a.blocks[0]; repeated(x) < len(x.offsets)*3/4 {
			t.Errorf("level %d: of %d offsets %d are repeated", level, len(x.offsets), repeated(x))
		}
	}
}

// They go on from block to block, also behind such as aren't packed, whatever was tried there.
func TestOffsetsGoOn(t *testing.T) {
	c := chance(21)
	x := noise(c, mostBlock)
	// changed is x once more, with other bytes, the first one among them; x is that from then on.
	changed := func(by byte) []byte {
		for at := 0; at < mostBlock-1000; at += 500 + c.IntN(9000) {
			x[at] = by
		}
		return bytes.Clone(x)
	}
	// All copies are from two blocks ahead. Of noise a few bytes stand twice by chance, so that a plan of it has copies from elsewhere.
	b := then(bytes.Clone(x), noise(c, mostBlock))
	copy(x[mostBlock/2:], letters(c, 3000)) // so that there are fresh weights, too
	b = then(b, changed('1'), noise(c, mostBlock), changed('2'), each(mostBlock, 0), changed('3'), noise(c, 1000))
	kinds := []int{rawBlock, rawBlock, packedBlock, rawBlock, packedBlock, sameBlock, packedBlock, rawBlock}
	for _, level := range []int{1, 5, 9} {
		_, a := wantFrame(t, b, level, true)
		if !slices.Equal(kindsOf(a), kinds) {
			t.Fatalf("level %d: kinds of blocks %v; want %v", level, kindsOf(a), kinds)
		}
		if texts := textsOf(a); texts[2] != freshText || texts[4] == freshText {
			t.Errorf("level %d: literals %v; want fresh weights in the block 2, not in the block 4", level, texts)
		}
		for place, want := range map[int]int{2: 2*mostBlock + 3, 4: 1, 6: 1} {
			if first := a.blocks[place].offsets[0]; first != want {
				t.Errorf("level %d: the first offset of the block %d is told by %d; want %d", level, place, first, want)
			}
		}
	}
}
