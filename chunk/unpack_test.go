package chunk_test

import (
	"bytes"
	"math"
	"math/rand/v2"
	"slices"
	"testing"

	"lighterman/api"
	"lighterman/chunk"
	"lighterman/decode"
	"lighterman/encode"
)

// frameOf is a frame of bytes, without a sum.
func frameOf(t *testing.T, b []byte, level int) []byte {
	t.Helper()
	x, err := encode.Encode(b, level, false)
	if err != api.OK {
		t.Fatalf("encode.Encode: error %d", int(err))
	}
	return x
}

// frameWithSum is one with a sum.
func frameWithSum(t *testing.T, b []byte, level int) []byte {
	t.Helper()
	x, err := encode.Encode(b, level, true)
	if err != api.OK {
		t.Fatalf("encode.Encode: error %d", int(err))
	}
	return x
}

// P19.2, Unpack: what may not be

func TestUnpackOfASizeThatMayNotBe(t *testing.T) {
	inputs := [][]byte{nil, {}, {1}, each(20, 255), frameOf(t, []byte("ab"), 0), each(65537, 'a'), frameOf(t, each(65537, 'a'), 1)}
	for _, size := range []int{math.MinInt, math.MinInt + 1, math.MinInt32, -65536, -2, -1, 65537, 65538, 1 << 20, 1 << 32, 1<<32 + 2, math.MaxInt - 1, math.MaxInt} {
		for kind := range 256 {
			for _, b := range inputs[:5] {
				wantNotUnpacked(t, byte(kind), b, size, api.ErrArg)
			}
		}
		for kind := range 4 {
			for _, b := range inputs {
				wantNotUnpacked(t, byte(kind), b, size, api.ErrArg)
			}
		}
	}
}

func TestEveryKind(t *testing.T) {
	text := []byte("ab")
	framed := frameOf(t, text, 0)
	for kind := range 256 {
		switch kind {
		case chunk.Plain:
			wantUnpacked(t, 0, text, 2, text, api.OK)
			wantUnpacked(t, 0, framed, len(framed), framed, api.OK)
			wantNotUnpacked(t, 0, framed, 2, api.ErrForm)
		case chunk.Packed:
			wantNotUnpacked(t, 1, text, 2, api.ErrShort)
			wantUnpacked(t, 1, framed, 2, text, api.OK)
			wantNotUnpacked(t, 1, framed, len(framed), api.ErrForm)
		default:
			for _, b := range [][]byte{nil, text, framed, framed[:5], each(30, 255), small().withSum().of(raw("ab"))} {
				for _, size := range []int{0, 1, 2, len(b), 65535, 65536} {
					wantNotUnpacked(t, byte(kind), b, size, api.ErrForm)
				}
			}
		}
	}
}

// P19.2, Unpack: of parts that are sent as they are

func TestUnpackPlain(t *testing.T) {
	c := chance(21)
	for _, n := range []int{0, 1, 2, 10, 255, 256, 1000, 65534, 65535, 65536} {
		for _, b := range [][]byte{noise(c, n), each(n, 0), words(c, n)} {
			wantUnpacked(t, 0, b, n, b, api.OK)
			for _, size := range []int{0, 1, n - 2, n - 1, n + 1, n + 2, n + 256, 2 * n, 65535, 65536} {
				if size == n {
					continue
				}
				want := api.ErrForm
				if size < 0 || size > mostBytes {
					want = api.ErrArg
				}
				wantNotUnpacked(t, 0, b, size, want)
			}
		}
	}
	wantUnpacked(t, 0, nil, 0, nil, api.OK)
	wantNotUnpacked(t, 0, nil, 1, api.ErrForm)
	wantNotUnpacked(t, 0, each(65537, 'a'), 65536, api.ErrForm)
	wantNotUnpacked(t, 0, each(65537, 'a'), 65537, api.ErrArg)
	wantNotUnpacked(t, 0, each(65537, 'a'), 1, api.ErrForm)
	wantNotUnpacked(t, 0, each(1<<20, 'a'), 0, api.ErrForm)
}

// Bytes that are sent as they are may be anything, also a frame.
func TestUnpackPlainFrames(t *testing.T) {
	for _, b := range [][]byte{frameOf(t, []byte("abc"), 3), frameWithSum(t, each(100, 'z'), 1), skipped(3, 1, 2), small().bytes()} {
		wantUnpacked(t, 0, b, len(b), b, api.OK)
		wantNotUnpacked(t, 0, b, len(b)-1, api.ErrForm)
	}
}

// P19.2, Unpack: of frames

func TestUnpackNoFrame(t *testing.T) {
	for _, size := range []int{0, 1, 2, 65535, 65536} {
		wantNotUnpacked(t, 1, nil, size, api.ErrForm)
		wantNotUnpacked(t, 1, []byte{}, size, api.ErrForm)
	}
}

func TestUnpackFrame(t *testing.T) {
	c := chance(22)
	for _, n := range []int{0, 1, 2, 3, 100, 255, 256, 5000, 65535, 65536} {
		for i, b := range texts(c, n) {
			for _, x := range [][]byte{frameOf(t, b, i%10), frameWithSum(t, b, i%10)} {
				wantUnpacked(t, 1, x, n, b, api.OK)
				for _, size := range []int{0, 1, n - 2, n - 1, n + 1, n + 2, 2 * n, 65535, 65536} {
					switch {
					case size == n:
						continue
					case size < 0 || size > mostBytes:
						wantNotUnpacked(t, 1, x, size, api.ErrArg)
					case size < n:
						wantNotUnpacked(t, 1, x, size, api.ErrBig)
					default:
						wantNotUnpacked(t, 1, x, size, api.ErrForm)
					}
				}
			}
		}
	}
}

// A frame may have more bytes than it makes, and may be told in any way that Decode reads.
func TestUnpackFramesOfAnyForm(t *testing.T) {
	window22 := head{window: 8 * 12, size: -1}
	for _, c := range []struct {
		b    []byte
		want string
	}{
		{small().of(raw("")), ""},
		{small().of(raw("ab")), "ab"},
		{small().of(raw(""), raw("a"), raw(""), same('b', 2), raw("")), "abb"},
		{small().of(same('a', 0)), ""},
		{sized(0).of(raw("")), ""},
		{sized(2).of(raw("ab")), "ab"},
		{small().of(packed(16, 'c', 'd', 0)), "cd"},
		{small().of(raw("ab"), packed(16, 'c', 'd', 0)), "abcd"},
		{window22.of(raw("ab")), "ab"},
		{then(small().withSum().of(raw("ab")), sumOf("ab")), "ab"},
		{then(sized(5).withSum().of(same('a', 5)), sumOf("aaaaa")), "aaaaa"},
		{then(small().withSum().of(raw("")), sumOf("")), ""},
		{window22.of(same('a', 65535), same('a', 1)), string(each(65536, 'a'))},
		{window22.of(raw(string(each(65536, 'b')))), string(each(65536, 'b'))},
	} {
		n := len(c.want)
		wantUnpacked(t, 1, c.b, n, []byte(c.want), api.OK)
		if n < mostBytes {
			wantNotUnpacked(t, 1, c.b, n+1, api.ErrForm)
			wantNotUnpacked(t, 1, c.b, 65536, api.ErrForm)
		}
		if n > 0 {
			wantNotUnpacked(t, 1, c.b, n-1, api.ErrBig)
			wantNotUnpacked(t, 1, c.b, 0, api.ErrBig)
		}
		wantNotUnpacked(t, 1, then(c.b, []byte{0}), n, api.ErrShort)
		wantNotUnpacked(t, 1, then(c.b, c.b), 2*n%(mostBytes+1), wantOfTwo(n))
	}
}

// wantOfTwo is the error of two frames of n bytes each, for the size that is asked for of them above.
func wantOfTwo(n int) api.Errno {
	if 2*n > mostBytes {
		return api.ErrBig
	}
	return api.ErrForm
}

// Each error that Decode tells, as it tells it.
func TestErrorsOfDecode(t *testing.T) {
	magic := small().bytes()[:4]
	// Two literals, each of a code of one bit, in a byte that has three of them.
	bitsLeft := []byte{0x22, 0xC0, 0x00, 0x80, 0x10, 0x0D, 0}
	for _, c := range []struct {
		b    []byte
		size int
		err  api.Errno
	}{
		{magic[:3], 2, api.ErrShort},
		{magic, 2, api.ErrShort},
		{small().bytes(), 2, api.ErrShort},
		{small().of(block(0, 2, 'a')), 2, api.ErrShort},
		{small().withSum().of(raw("ab")), 2, api.ErrShort},
		{then(small().withSum().of(raw("ab")), sumOf("ab")[:3]), 2, api.ErrShort},
		{[]byte("ab"), 2, api.ErrShort},
		{skipped(5, 1, 2)[:9], 2, api.ErrShort},
		{[]byte("abcd"), 4, api.ErrForm},
		{each(2, 0), 2, api.ErrShort},
		{each(100, 0), 100, api.ErrForm},
		{then(magic, []byte{8, 0}), 2, api.ErrForm},
		{small().of(block(3, 0)), 2, api.ErrForm},
		{sized(1).of(raw("ab")), 2, api.ErrForm},
		{sized(2).of(raw("a")), 2, api.ErrForm},
		{sized(3).of(raw("ab")), 2, api.ErrBig},
		{sized(1 << 40).of(raw("ab")), 2, api.ErrBig},
		{small().of(raw("abc")), 2, api.ErrBig},
		{small().of(raw("a"), raw("bc")), 2, api.ErrBig},
		{small().of(same('a', 1025)), 65536, api.ErrBig},
		{head{window: 8*12 + 1, size: -1}.of(raw("ab")), 2, api.ErrBig},
		{head{window: 255, size: -1}.of(raw("ab")), 2, api.ErrBig},
		{then(small().withSum().of(raw("ab")), sumOf("ac")), 2, api.ErrSum},
		{then(small().withSum().of(raw("ab")), each(4, 0)), 2, api.ErrSum},
		{then(magic, []byte{1, 0, 7}), 2, api.ErrDict},
		{then(magic, []byte{0x21, 7, 2}, raw("ab")), 2, api.ErrDict},
		{small().of(packed(16, 'a', 'b', 0, 0)), 2, api.ErrLeft},
		{small().of(packed(bitsLeft...)), 2, api.ErrLeft},
		{small().of(packed(8, 'a', 1, 0x54, 1, 3, 0, 8)), 4, api.ErrOffset}, // a literal, and three bytes from 5 ahead
	} {
		if _, err := decode.Decode(c.b, 22, c.size); err != c.err {
			t.Errorf("decode.Decode of %x, %d: error %d; want %d", c.b, c.size, int(err), int(c.err))
		}
		wantNotUnpacked(t, 1, c.b, c.size, c.err)
		wantNotUnpacked(t, 1, c.b, mostBytes+1, api.ErrArg)
		wantNotUnpacked(t, 2, c.b, c.size, api.ErrForm)
		// Ahead of what is said of frames there are too many of.
		wantNotUnpacked(t, 1, then(skipped(0), c.b), c.size, c.err)
		wantNotUnpacked(t, 1, then(small().of(raw("")), c.b), c.size, c.err)
	}
}

// Two frames that make as many bytes together are not one.
func TestTwoFrames(t *testing.T) {
	one, other, none := small().of(raw("ab")), frameOf(t, []byte("cde"), 0), frameOf(t, nil, 0)
	withSum := then(small().withSum().of(raw("ab")), sumOf("ab"))
	for _, c := range []struct {
		b    []byte
		size int
	}{
		{then(one, other), 5},
		{then(other, one), 5},
		{then(one, one), 4},
		{then(one, one, one), 6},
		{then(one, none), 2},
		{then(none, one), 2},
		{then(none, one, none), 2},
		{then(none, none), 0},
		{then(withSum, withSum), 4},
		{then(withSum, other), 5},
		{then(one, skipped(1), other), 5},
	} {
		wantNotUnpacked(t, 1, c.b, c.size, api.ErrForm)
		wantNotUnpacked(t, 1, c.b, c.size+1, api.ErrForm)
		wantNotUnpacked(t, 1, c.b, 65536, api.ErrForm)
		if c.size > 0 {
			wantNotUnpacked(t, 1, c.b, c.size-1, api.ErrBig)
		}
	}
}

func TestSkippedFrames(t *testing.T) {
	one, none := small().of(raw("ab")), small().of(raw(""))
	for which := range 16 {
		for _, x := range [][]byte{skipped(which), skipped(which, 1), skipped(which, one...), skipped(which, each(300, 7)...)} {
			for _, size := range []int{0, 1, 2, 65536} {
				wantNotUnpacked(t, 1, x, size, api.ErrForm)
			}
			wantNotUnpacked(t, 1, then(x, x), 0, api.ErrForm)
			wantNotUnpacked(t, 1, then(x, one), 2, api.ErrForm)
			wantNotUnpacked(t, 1, then(one, x), 2, api.ErrForm)
			wantNotUnpacked(t, 1, then(x, one, x), 2, api.ErrForm)
			wantNotUnpacked(t, 1, then(x, none), 0, api.ErrForm)
			wantNotUnpacked(t, 1, then(none, x), 0, api.ErrForm)
			wantNotUnpacked(t, 1, then(x, one), 1, api.ErrBig)
			wantNotUnpacked(t, 1, then(one, x), 1, api.ErrBig)
			wantNotUnpacked(t, 1, then(one, x[:len(x)-1]), 2, api.ErrShort)
		}
	}
}

func TestBytesBehindAFrame(t *testing.T) {
	for _, x := range [][]byte{small().of(raw("ab")), frameOf(t, []byte("ab"), 1), frameWithSum(t, []byte("ab"), 1)} {
		wantUnpacked(t, 1, x, 2, []byte("ab"), api.OK)
		for _, c := range []byte{0, 1, 40, 0x50, 255} {
			for n := 1; n < 4; n++ {
				wantNotUnpacked(t, 1, then(x, each(n, c)), 2, api.ErrShort)
			}
			wantNotUnpacked(t, 1, then(x, each(4, c)), 2, api.ErrForm)
			wantNotUnpacked(t, 1, then(x, each(40, c)), 2, api.ErrForm)
			wantNotUnpacked(t, 1, then([]byte{c}, x), 2, api.ErrForm)
		}
	}
}

func TestSums(t *testing.T) {
	for _, text := range []string{"", "a", "ab", string(each(500, 'q')), string(words(chance(23), 3000))} {
		b, n := []byte(text), len(text)
		for level := range mostLevel + 1 {
			x := frameWithSum(t, b, level)
			wantUnpacked(t, 1, x, n, b, api.OK)
			for bit := range 32 {
				other := bytes.Clone(x)
				other[len(x)-1-bit/8] ^= 1 << (bit % 8)
				wantNotUnpacked(t, 1, other, n, api.ErrSum)
			}
			for cut := 1; cut <= 4; cut++ {
				wantNotUnpacked(t, 1, x[:len(x)-cut], n, api.ErrShort)
			}
			other := bytes.Clone(x)
			slices.Reverse(other[len(x)-4:])
			wantNotUnpacked(t, 1, other, n, api.ErrSum)
			wantNotUnpacked(t, 1, other, mostBytes, api.ErrSum) // ahead of bytes that lack
		}
	}
}

// Frames that are cut anywhere.
func TestFramesThatEndTooEarly(t *testing.T) {
	c := chance(24)
	for i, b := range [][]byte{{}, []byte("ab"), each(300, 'a'), words(c, 700), copied(c, 500, 90), few(c, 400, 3), noise(c, 300)} {
		for _, x := range [][]byte{frameOf(t, b, 9-i), frameWithSum(t, b, i)} {
			for n := range x {
				want := api.ErrShort
				if n == 0 {
					want = api.ErrForm
				}
				wantNotUnpacked(t, 1, x[:n], len(b), want)
				wantNotUnpacked(t, 0, x[:n], len(x), api.ErrForm)
			}
			for n := 1; n <= len(x); n++ { // from the front
				if err := wantAsInWords(t, 1, x[n:], len(b)); err == api.OK {
					t.Errorf("%s: no error", callUnpack(1, x[n:], len(b)))
				}
			}
		}
	}
}

// P19.2, Unpack: of chance

// spoilt is what was sent, of which something is another way.
func spoilt(c *rand.Rand, x []byte) []byte {
	b := bytes.Clone(x)
	at := c.IntN(len(b) + 1)
	switch c.IntN(8) {
	case 0:
		return b[:at]
	case 1:
		return b[at:]
	case 2:
		return then(b[:at], []byte{byte(c.IntN(256))}, b[at:])
	case 3:
		return then(b, b)
	case 4:
		return then(skipped(c.IntN(16), b[:at]...), b)
	case 5:
		return then(b, skipped(c.IntN(16)))
	default:
		for range 1 + c.IntN(2) {
			if len(b) > 0 {
				b[c.IntN(len(b))] ^= 1 << c.IntN(8)
			}
		}
		return b
	}
}

func TestSpoiltParts(t *testing.T) {
	rounds := 100000
	if testing.Short() {
		rounds = 3000
	}
	c := chance(25)
	var parts, sent [][]byte
	for i := range 30 {
		for _, b := range texts(c, i*i/2) {
			parts = append(parts, b)
			if c.IntN(3) == 0 {
				sent = append(sent, frameWithSum(t, b, i%10))
			} else {
				sent = append(sent, frameOf(t, b, i%10))
			}
		}
	}
	told := map[api.Errno]int{}
	for range rounds {
		i := c.IntN(len(parts))
		kind, x, size := byte(1), sent[i], len(parts[i])
		if c.IntN(10) > 0 {
			x = spoilt(c, x)
		}
		switch c.IntN(12) {
		case 0:
			kind = 0
		case 1:
			kind = byte(c.IntN(256))
		case 2:
			size += c.IntN(7) - 3
		case 3:
			size = c.IntN(70000) - 2000
		}
		told[wantAsInWords(t, kind, x, size)]++
	}
	if testing.Short() {
		return
	}
	for _, err := range []api.Errno{api.OK, api.ErrArg, api.ErrShort, api.ErrForm, api.ErrBig, api.ErrSum, api.ErrDict, api.ErrLeft, api.ErrOffset} {
		if told[err] < 10 {
			t.Errorf("error %d is told too seldom: %v", int(err), told)
		}
	}
}

// Bytes that are nothing.
func TestNoiseIsUnpackedAsInWords(t *testing.T) {
	c := chance(26)
	for range 3000 {
		b := noise(c, c.IntN(60))
		if c.IntN(2) == 0 {
			b = then(small().bytes()[:4], b)
		}
		wantAsInWords(t, byte(c.IntN(3)), b, c.IntN(80)-5)
	}
}

// Calls in between change nothing.
func TestNothingIsKept(t *testing.T) {
	c := chance(27)
	type sent struct {
		b, x  []byte
		kind  byte
		level int
	}
	var all []sent
	for i := range 100 {
		b := texts(c, c.IntN(900))[c.IntN(12)]
		kind, x := wantPacked(t, b, i%10)
		all = append(all, sent{b, x, kind, i % 10})
	}
	for range 1000 {
		s := all[c.IntN(len(all))]
		if kind, x, err := chunk.Pack(s.b, s.level); kind != s.kind || !bytes.Equal(x, s.x) || err != api.OK {
			t.Errorf("%s, later: kind %d, %d bytes, error %d", callPack(s.b, s.level), kind, len(x), int(err))
		}
		if b, err := chunk.Unpack(s.kind, s.x, len(s.b)); !bytes.Equal(b, s.b) || err != api.OK {
			t.Errorf("%s, later: %d bytes, error %d", callUnpack(s.kind, s.x, len(s.b)), len(b), int(err))
		}
		wantAsInWords(t, byte(c.IntN(3)), all[c.IntN(len(all))].x, c.IntN(900))
	}
}
