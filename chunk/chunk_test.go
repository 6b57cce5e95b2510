package chunk_test

import (
	"bytes"
	"fmt"
	"math"
	"testing"

	"lighterman/api"
	"lighterman/chunk"
)

func ExampleCount() {
	fmt.Println(chunk.Count(10, 4))
	_, err := chunk.Count(5000, 4)
	fmt.Println(err == api.ErrBig)
	// Output:
	// 3 lighterman: error 0
	// true
}

func ExampleSpan() {
	fmt.Println(chunk.Span(10, 4, 2))
	_, _, err := chunk.Span(10, 4, 3)
	fmt.Println(err == api.ErrRange)
	// Output:
	// 8 2 lighterman: error 0
	// true
}

func ExamplePack() {
	b := bytes.Repeat([]byte("over and "), 1000)
	kind, x, err := chunk.Pack(b, 6)
	fmt.Println(kind == chunk.Packed, len(x) < 100, err == api.OK)
	again, err := chunk.Unpack(kind, x, len(b))
	fmt.Println(bytes.Equal(again, b), err == api.OK)

	kind, x, err = chunk.Pack([]byte{7, 8}, 6)
	fmt.Println(kind == chunk.Plain, x, err == api.OK)
	// Output:
	// true true true
	// true true
	// true [7 8] true
}

func TestKinds(t *testing.T) {
	if chunk.Plain != 0 || chunk.Packed != 1 {
		t.Error(chunk.Plain, chunk.Packed)
	}
}

// P19.1: what may not be

// wrongParts are numbers of bytes that no part has.
func wrongParts() []int {
	return []int{math.MinInt, math.MinInt + 1, math.MinInt32, -65537, -65536, -2, -1, 0, 65537, 65538, 131072, 1 << 31, 1 << 32, 1<<32 + 1, 1<<32 + 4, math.MaxInt - 1, math.MaxInt}
}

// farPlaces are numbers that no part has, wherever files end.
func farPlaces() []int {
	return []int{math.MinInt, math.MinInt + 1, math.MinInt32, -1 << 32, -1024, -2, -1, 1024, 1025, 65536, 1 << 31, 1 << 32, 1<<32 + 1, 1 << 48, math.MaxInt - 1, math.MaxInt}
}

func TestPartThatMayNotBe(t *testing.T) {
	for _, part := range wrongParts() {
		for _, size := range []uint64{0, 1, 10, 1024, 65536, 65537, 1 << 26, 1<<26 + 1, 1 << 32, 1 << 63, math.MaxUint64} {
			wantCount(t, size, part, 0, api.ErrArg)
			for _, i := range append(farPlaces(), 0, 1, 2, 1023) {
				wantSpan(t, size, part, i, 0, 0, api.ErrArg)
			}
		}
	}
}

func TestTooManyParts(t *testing.T) {
	for _, c := range []struct {
		size uint64
		part int
	}{
		{1025, 1}, {1026, 1}, {2049, 2}, {2050, 2}, {4097, 4}, {1 << 30, 1000},
		{1<<26 + 1, 65536}, {1<<26 + 65536, 65536}, {1 << 26, 65535}, {1024*65535 + 1, 65535},
		{1<<32 + 1, 1}, {1 << 32, 1}, {1<<32 + 1, 65536}, {1 << 42, 65536}, {1 << 48, 65536}, {1<<48 + 1, 65536}, {1<<58 + 1, 65536}, // of which the lowest bits would be few
		{1 << 62, 3}, {1 << 63, 1}, {1 << 63, 65536}, {1<<63 + 1, 2},
		{math.MaxUint64, 1}, {math.MaxUint64, 2}, {math.MaxUint64, 3}, {math.MaxUint64, 4}, {math.MaxUint64, 65535}, {math.MaxUint64, 65536},
		{math.MaxUint64 - 1, 3}, {math.MaxUint64 - 65534, 65536}, {math.MaxUint64 - 65535, 65536}, {math.MaxUint64 - 65536, 65536},
	} {
		wantCount(t, c.size, c.part, 0, api.ErrBig)
		for _, i := range append(farPlaces(), 0, 1, 2, 1023) {
			wantSpan(t, c.size, c.part, i, 0, 0, api.ErrBig)
		}
	}
}

// P19.1: how many parts there are

func TestCount(t *testing.T) {
	for _, c := range []struct {
		size uint64
		part int
		want int
	}{
		{0, 1, 0}, {0, 4, 0}, {0, 65536, 0},
		{1, 1, 1}, {1, 2, 1}, {1, 65535, 1}, {1, 65536, 1},
		{2, 1, 2}, {2, 2, 1}, {3, 2, 2}, {4, 2, 2}, {5, 2, 3},
		{9, 4, 3}, {10, 4, 3}, {11, 4, 3}, {12, 4, 3}, {13, 4, 4},
		{1023, 1, 1023}, {1024, 1, 1024}, {2046, 2, 1023}, {2047, 2, 1024}, {2048, 2, 1024},
		{1000000, 1000, 1000}, {1000001, 1000, 1001}, {1023999, 1000, 1024}, {1024000, 1000, 1024},
		{65535, 65536, 1}, {65536, 65536, 1}, {65537, 65536, 2}, {131072, 65536, 2}, {131073, 65536, 3},
		{65534, 65535, 1}, {65535, 65535, 1}, {65536, 65535, 2},
		{1<<26 - 65536, 65536, 1023}, {1<<26 - 65535, 65536, 1024}, {1<<26 - 1, 65536, 1024}, {1 << 26, 65536, 1024},
		{1024 * 65535, 65535, 1024}, {1<<26 - 1, 65535, 0}, {1024*65535 - 1, 65535, 1024},
	} {
		want := api.OK
		if c.want == 0 && c.size > 0 {
			want = api.ErrBig
		}
		wantCount(t, c.size, c.part, c.want, want)
	}
}

// Each part that may be, and sizes about those at which there is a part more.
func TestCountAndSpanOfEveryPart(t *testing.T) {
	step := 1
	if testing.Short() {
		step = 97
	}
	for part := 1; part <= mostBytes; part += step {
		p := uint64(part)
		for _, size := range []uint64{
			0, 1, p - 1, p, p + 1, 2*p - 1, 2 * p, 2*p + 1, 1023*p - 1, 1023 * p, 1023*p + 1, 1024*p - 1, 1024 * p, 1024*p + 1, 1025 * p,
			1 << 32, 1<<48 + 1, 1 << 63, math.MaxUint64 - p, math.MaxUint64 - p + 1, math.MaxUint64 - p + 2, math.MaxUint64 - 1, math.MaxUint64,
		} {
			n, err := countInWords(size, part)
			wantCount(t, size, part, n, err)
			for _, i := range []int{math.MinInt, -1, 0, 1, n - 2, n - 1, n, n + 1, math.MaxInt} {
				from, n, err := spanInWords(size, part, i)
				wantSpan(t, size, part, i, from, n, err)
			}
			if t.Failed() {
				return
			}
		}
	}
}

func TestCountIsTheSameAgain(t *testing.T) {
	c := chance(1)
	for range 20000 {
		size, part, i := c.Uint64()>>c.IntN(64), c.IntN(70000)-2000, c.IntN(1200)-100
		n, err := countInWords(size, part)
		wantCount(t, size, part, n, err)
		from, n, err := spanInWords(size, part, i)
		for range 2 {
			wantSpan(t, size, part, i, from, n, err)
		}
	}
}

// P19.1: where parts begin, and how many bytes they have

func TestSpan(t *testing.T) {
	for _, c := range []struct {
		size uint64
		part int
		i    int
		from uint64
		want int
	}{
		{10, 4, 0, 0, 4}, {10, 4, 1, 4, 4}, {10, 4, 2, 8, 2},
		{12, 4, 2, 8, 4}, {13, 4, 3, 12, 1}, {9, 4, 2, 8, 1}, {11, 4, 2, 8, 3},
		{1, 1, 0, 0, 1}, {1, 65536, 0, 0, 1}, {3, 65535, 0, 0, 3},
		{1024, 1, 0, 0, 1}, {1024, 1, 1023, 1023, 1}, {2047, 2, 1023, 2046, 1}, {2047, 2, 1022, 2044, 2}, {2048, 2, 1023, 2046, 2},
		{65536, 65536, 0, 0, 65536}, {65537, 65536, 0, 0, 65536}, {65537, 65536, 1, 65536, 1}, {131071, 65536, 1, 65536, 65535},
		{1 << 26, 65536, 0, 0, 65536}, {1 << 26, 65536, 1, 65536, 65536}, {1 << 26, 65536, 1023, 67043328, 65536},
		{1<<26 - 1, 65536, 1023, 67043328, 65535}, {67043329, 65536, 1023, 67043328, 1}, {67043329, 65536, 1022, 66977792, 65536},
	} {
		wantSpan(t, c.size, c.part, c.i, c.from, c.want, api.OK)
	}
}

func TestSpanOfAPartThatThereIsnt(t *testing.T) {
	for _, c := range []struct {
		size uint64
		part int
		n    int
	}{
		{0, 1, 0}, {0, 4, 0}, {0, 65536, 0}, {1, 1, 1}, {1, 4, 1}, {10, 4, 3}, {12, 4, 3}, {13, 4, 4},
		{1024, 1, 1024}, {2047, 2, 1024}, {65536, 65536, 1}, {65537, 65536, 2}, {1 << 26, 65536, 1024}, {1<<26 - 1, 65536, 1024},
	} {
		wantCount(t, c.size, c.part, c.n, api.OK)
		for _, i := range append(farPlaces(), c.n, c.n+1, c.n+2, 2*c.n+1) {
			wantSpan(t, c.size, c.part, i, 0, 0, api.ErrRange)
		}
		if c.n > 0 {
			if _, n, err := chunk.Span(c.size, c.part, c.n-1); n == 0 || err != api.OK {
				t.Errorf("Span(%d, %d, %d): %d bytes, error %d", c.size, c.part, c.n-1, n, int(err))
			}
		}
	}
}

// P19.2, Pack: what may not be

func TestPackOfALevelThatMayNotBe(t *testing.T) {
	for _, level := range []int{math.MinInt, math.MinInt32, -10, -2, -1, 10, 11, 19, 22, 255, 256, 265, 1 << 32, 1<<32 + 5, math.MaxInt} {
		for _, b := range [][]byte{nil, {}, {7, 8}, each(500, 'a'), make([]byte, mostBytes), make([]byte, mostBytes+1), make([]byte, 1<<22+1)} {
			wantNotPacked(t, b, level)
		}
	}
}

func TestPackOfTooManyBytes(t *testing.T) {
	c := chance(2)
	for level := -1; level <= mostLevel+1; level++ {
		for _, b := range [][]byte{make([]byte, mostBytes+1), noise(c, mostBytes+1), make([]byte, mostBytes+2), make([]byte, 2*mostBytes), make([]byte, 1<<22), make([]byte, 1<<22+1)} {
			wantNotPacked(t, b, level)
		}
	}
}

// P19.2, Pack: what is packed, unpacked

func TestPackOfNoBytes(t *testing.T) {
	for level := range mostLevel + 1 {
		for _, b := range [][]byte{nil, {}} {
			if kind, x := wantPacked(t, b, level); kind != chunk.Plain || len(x) > 0 {
				t.Errorf("%s: kind %d, %x", callPack(b, level), kind, x)
			}
		}
	}
}

func TestPackOfOneByte(t *testing.T) {
	for c := range 256 {
		for level := range mostLevel + 1 {
			if kind, x := wantPacked(t, []byte{byte(c)}, level); kind != chunk.Plain || len(x) != 1 || x[0] != byte(c) {
				t.Errorf("%d, level %d: kind %d, %x", c, level, kind, x)
			}
		}
	}
}

func TestPackOfFewBytes(t *testing.T) {
	c := chance(3)
	for n := range 260 {
		for i, b := range texts(c, n) {
			wantPacked(t, b, (n+i)%10)
		}
	}
}

func TestPackOfEveryLevel(t *testing.T) {
	c := chance(4)
	for _, n := range []int{2, 20, 255, 256, 257, 1000, 5000} {
		for _, b := range texts(c, n) {
			for level := range mostLevel + 1 {
				wantPacked(t, b, level)
			}
		}
	}
}

func TestPackOfManyBytes(t *testing.T) {
	c := chance(5)
	for n := mostBytes - 1; n <= mostBytes; n++ {
		for i, b := range texts(c, n) {
			for level := range mostLevel + 1 {
				if testing.Short() && level != i%10 {
					continue
				}
				wantPacked(t, b, level)
			}
		}
	}
}

// Copies from just as far ahead as a part has bytes to begin with, and from near.
func TestPackOfCopies(t *testing.T) {
	c := chance(6)
	for _, ahead := range []int{1, 2, 3, 7, 1000, 20000, 32768, 60000, 65500} {
		b := copied(c, mostBytes, ahead)
		for level := range mostLevel + 1 {
			kind, x := wantPacked(t, b, level)
			if level > 0 && ahead < 60000 && (kind != chunk.Packed || len(x) > ahead+1000) {
				t.Errorf("from %d ahead, level %d: kind %d, %d bytes", ahead, level, kind, len(x))
			}
		}
	}
}

// What is all alike, or noise, is of one kind for sure.
func TestKindsOfParts(t *testing.T) {
	c := chance(7)
	for _, n := range []int{200, 1000, 65535, 65536} {
		for level := range mostLevel + 1 {
			if kind, x := wantPacked(t, noise(c, n), level); kind != chunk.Plain || len(x) != n {
				t.Errorf("%d bytes of noise, level %d: kind %d, %d bytes", n, level, kind, len(x))
			}
			if level == 0 {
				continue
			}
			if kind, x := wantPacked(t, each(n, 'a'), level); kind != chunk.Packed || len(x) >= 96 {
				t.Errorf("%d bytes alike, level %d: kind %d, %d bytes", n, level, kind, len(x))
			}
		}
	}
}

// P19.2, Pack: a frame of just as many bytes isn't sent, one of a byte fewer is.
func TestJustAsManyBytes(t *testing.T) {
	c := chance(8)
	for level := range mostLevel + 1 {
		var same, fewer, more int
		for n := range 120 {
			for _, b := range [][]byte{
				each(n, 'a'), few(c, n, 2), few(c, n, 3), then(noise(c, n), each(n/5, 'b')),
				then(noise(c, 10+n), each(40, 'x')), then(noise(c, n), bytes.Repeat([]byte("abc"), 8)), copied(c, n, 1+n/3),
			} {
				x := frameOf(t, b, level)
				kind, _ := wantPacked(t, b, level)
				switch {
				case len(x) == len(b):
					same++
					if kind != chunk.Plain {
						t.Errorf("%s: kind %d, of a frame of as many bytes", callPack(b, level), kind)
					}
				case len(x) == len(b)-1:
					fewer++
					if kind != chunk.Packed {
						t.Errorf("%s: kind %d, of a frame of a byte fewer", callPack(b, level), kind)
					}
				case len(x) == len(b)+1:
					more++
					if kind != chunk.Plain {
						t.Errorf("%s: kind %d, of a frame of a byte more", callPack(b, level), kind)
					}
				}
			}
		}
		if same == 0 || fewer == 0 || more == 0 {
			t.Errorf("level %d: %d frames of as many bytes, %d of a byte fewer, %d of a byte more", level, same, fewer, more)
		}
	}
}

// A frame that is sent has no sum, and is one.
func TestFramesThatAreSent(t *testing.T) {
	c := chance(9)
	packed := 0
	for i, b := range texts(c, 3000) {
		for level := range mostLevel + 1 {
			kind, x := wantPacked(t, b, level)
			if kind != chunk.Packed {
				continue
			}
			packed++
			if x[4]&4 != 0 || lengthOfFirst(x) != len(x) {
				t.Errorf("text %d, level %d: %x", i, level, x[:20])
			}
		}
	}
	if packed < 50 {
		t.Errorf("only %d are packed", packed)
	}
}

// P19.3

// wantSent fails, unless a file's parts are sent in no more bytes than they have, and are all of it, one behind the other.
func wantSent(t *testing.T, file []byte, part, level int) {
	t.Helper()
	n, err := chunk.Count(uint64(len(file)), part)
	if err != api.OK {
		t.Fatalf("Count(%d, %d): error %d", len(file), part, int(err))
	}
	var all []byte
	for i := range n {
		from, long, err := chunk.Span(uint64(len(file)), part, i)
		if from != uint64(len(all)) || long < 1 || long > part || err != api.OK {
			t.Fatalf("Span(%d, %d, %d): %d, %d, error %d", len(file), part, i, from, long, int(err))
		}
		kind, x, err := chunk.Pack(file[from:from+uint64(long)], level)
		if err != api.OK || len(x) > long {
			t.Fatalf("part %d of %d bytes: kind %d, %d bytes, error %d", i, long, kind, len(x), int(err))
		}
		made, err := chunk.Unpack(kind, x, long)
		if err != api.OK {
			t.Fatalf("part %d of %d bytes: Unpack's error %d", i, long, int(err))
		}
		all = append(all, made...)
	}
	if !bytes.Equal(all, file) {
		t.Errorf("of %d bytes, in parts of %d, level %d, other ones", len(file), part, level)
	}
	if _, _, err := chunk.Span(uint64(len(file)), part, n); err != api.ErrRange {
		t.Errorf("Span(%d, %d, %d): error %d", len(file), part, n, int(err))
	}
}

func TestFilesInParts(t *testing.T) {
	c := chance(10)
	for n := range 40 {
		for part := 1; part < 45; part++ {
			wantSent(t, few(c, n, 1+part%3), part, (n+part)%10)
		}
	}
	for _, w := range []struct{ size, part int }{{1024, 1}, {2047, 2}, {2048, 2}, {102400, 100}, {102399, 100}, {200000, 65536}, {196608, 65536}, {200000, 1000}, {300001, 30000}} {
		for i, b := range [][]byte{words(c, w.size), then(each(w.size/2, 'a'), noise(c, w.size-w.size/2))} {
			wantSent(t, b, w.part, 1+8*i)
		}
	}
}

// The most parts, of the most bytes.
func TestTheGreatestFile(t *testing.T) {
	if testing.Short() {
		t.Skip("takes seconds")
	}
	c := chance(11)
	piece := then(words(c, 50000), noise(c, 30000), each(20000, 'a'))
	file := bytes.Repeat(piece, (1<<26)/len(piece)+1)[:1<<26]
	wantSent(t, file, mostBytes, 1)
}
