package decode_test

import (
	"fmt"
	"math"
	"slices"
	"strings"
	"testing"

	"lighterman/api"
	"lighterman/decode"
	"lighterman/literals"
)

func ExampleDecode() {
	b := []byte{40, 181, 47, 253, 32, 2, 17, 0, 0, 7, 8}
	fmt.Println(decode.Decode(b, 10, 2))
	_, err := decode.Decode(b, 10, 1)
	fmt.Println(err == api.ErrBig)
	// Output:
	// [7 8] lighterman: error 0
	// true
}

func ExampleFrames() {
	b := []byte{40, 181, 47, 253, 32, 2, 17, 0, 0, 7, 8}
	skip := []byte{80, 42, 77, 24, 1, 0, 0, 0, 9} // with one byte, that says nothing
	fmt.Println(decode.Frames(slices.Concat(b, skip, b), 10, 4))
	fmt.Println(decode.Decode(slices.Concat(b, skip, b), 10, 4))
	// Output:
	// 2 1 lighterman: error 0
	// [7 8 7 8] lighterman: error 0
}

// P16.1: what is handed in

func TestLogAndMostThatMayNotBe(t *testing.T) {
	inputs := [][]byte{nil, {}, {1}, number(framed, 4), small().of(raw("ab")), skipped(0), each(20, 255), small().of(each(3, 255))}
	for _, b := range inputs {
		for _, log := range []int{math.MinInt, math.MinInt32, -10, -1, 0, 1, 8, 9, 23, 24, 32, 63, 64, 266, 1 << 32, 1<<32 + 10, math.MaxInt} {
			for _, most := range []int{math.MinInt, -1, 0, 1, 100, math.MaxInt} {
				wantDecoded(t, bounds{log, most}, b, refusal(api.ErrArg))
			}
		}
		for log := 10; log <= 22; log++ {
			for _, most := range []int{math.MinInt, math.MinInt + 1, -1 << 32, -100, -2, -1} {
				wantDecoded(t, bounds{log, most}, b, refusal(api.ErrArg))
			}
		}
	}
}

func TestLogAndMostThatMayBe(t *testing.T) {
	for log := 10; log <= 22; log++ {
		for _, most := range []int{0, 1, 2, 100, 1 << 32, math.MaxInt} {
			wantDecoded(t, bounds{log, most}, nil, decoded{})
			wantDecoded(t, bounds{log, most}, []byte{}, decoded{})
			wantDecoded(t, bounds{log, most}, skipped(0, 1, 2), decoded{skipped: 1})
			wantDecoded(t, bounds{log, most}, small().of(raw("")), made(""))
			if most >= 2 {
				wantDecoded(t, bounds{log, most}, small().of(raw("ab")), made("ab"))
				wantDecoded(t, bounds{log, most}, segment(2).of(raw("ab")), made("ab"))
			}
		}
	}
}

// P16.1: the first number

func TestFirstNumberThatIsntWhole(t *testing.T) {
	for _, first := range [][]byte{number(framed, 4), number(firstSkipped, 4), number(lastSkipped, 4), each(4, 0), each(4, 255), {1, 2, 3, 4}} {
		for n := 1; n < 4; n++ {
			wantRefused(t, free(), first[:n], api.ErrShort)
			wantRefused(t, free(), then(segment(2).of(raw("ab")), first[:n]), api.ErrShort)
			wantRefused(t, free(), then(segment(0).withSum().of(raw("")), sumOf(""), first[:n]), api.ErrShort)
			wantRefused(t, free(), then(skipped(5, 1), first[:n]), api.ErrShort)
		}
	}
}

func TestFirstNumberThatIsNone(t *testing.T) {
	none := []uint64{
		0, 1, math.MaxUint32, math.MaxUint32 - 1, 0x80000000,
		firstSkipped - 2, firstSkipped - 1, lastSkipped + 1, lastSkipped + 2,
		framed - 1, framed + 1, framed - 256, framed + 256,
		0x28B52FFD, 0x502A4D18, // with the highest byte first
		0xFD2FB527, 0xFD2FB526, 0xFD2FB522, 0x1EB52FFD, // of older formats
		0xEC30A437, // of a dictionary
		0x184D2204, // of another format
	}
	for bit := range 32 {
		none = append(none, framed^1<<bit)
		if bit >= 4 {
			none = append(none, firstSkipped^1<<bit, lastSkipped^1<<bit)
		}
	}
	whole := small().of(raw("ab"))
	for _, first := range none {
		for _, behind := range [][]byte{nil, {0}, each(8, 0), whole[4:], skipped(0)[4:], whole} {
			wantRefused(t, free(), then(number(first, 4), behind), api.ErrForm)
			wantRefused(t, free(), then(whole, number(first, 4), behind), api.ErrForm)
			wantRefused(t, free(), then(skipped(15), number(first, 4), behind), api.ErrForm)
		}
	}
}

// P16.1: frames that are skipped

func TestSkipped(t *testing.T) {
	whole := segment(2).of(raw("ab"))
	for which := range 16 {
		for _, n := range []int{0, 1, 2, 3, 4, 5, 255, 256, 257, 70000} {
			for _, c := range []byte{0, 255, 0x50} {
				b := skipped(which, each(n, c)...)
				wantDecoded(t, free(), b, decoded{skipped: 1})
				wantDecoded(t, bounds{10, 2}, then(b, whole), decoded{b: []byte("ab"), frames: 1, skipped: 1})
				wantDecoded(t, bounds{10, 2}, then(whole, b), decoded{b: []byte("ab"), frames: 1, skipped: 1})
				wantDecoded(t, bounds{10, 0}, then(b, b, b), decoded{skipped: 3})
				if n > 0 { // one that lacks
					wantRefused(t, free(), b[:len(b)-1], api.ErrShort)
				}
			}
		}
	}
}

// What stands in one that is skipped isn't looked at.
func TestSkippedSaysNothing(t *testing.T) {
	whole := segment(2).of(raw("ab"))
	for _, inner := range [][]byte{whole, skipped(3, 4, 5), each(9, 255), number(framed, 4), whole[:8], then(whole, whole)} {
		wantDecoded(t, free(), skipped(7, inner...), decoded{skipped: 1})
		wantDecoded(t, free(), then(skipped(7, inner...), whole), decoded{b: []byte("ab"), frames: 1, skipped: 1})
	}
}

func TestSkippedOfBytesThatLack(t *testing.T) {
	for which := range 16 {
		first := number(uint64(firstSkipped+which), 4)
		for _, n := range []uint64{0, 1, 2, 100, math.MaxUint32} {
			for cut := range 4 {
				wantRefused(t, free(), then(first, number(n, 4)[:cut]), api.ErrShort)
			}
		}
		for _, n := range []uint64{1, 2, 256, 1 << 16, 1 << 24, 1<<31 - 1, 1 << 31, math.MaxUint32 - 8, math.MaxUint32 - 7, math.MaxUint32 - 4, math.MaxUint32 - 1, math.MaxUint32} {
			wantRefused(t, free(), then(first, number(n, 4)), api.ErrShort)
			if n > 10 {
				wantRefused(t, free(), then(first, number(n, 4), each(10, 0)), api.ErrShort)
				wantRefused(t, free(), then(first, number(n, 4), small().of(raw("ab"))), api.ErrShort)
			}
		}
	}
}

// P16.1: a frame's head

func TestHeadThatIsRefused(t *testing.T) {
	magic := number(framed, 4)
	for _, h := range []head{small(), sized(7), segment(7), small().withSum(), segment(1 << 40)} {
		b := h.bytes()
		for n := 4; n < len(b); n++ {
			wantRefused(t, free(), b[:n], api.ErrShort)
		}
	}
	for _, c := range []struct {
		head string
		err  api.Errno
	}{
		{"08", api.ErrForm},
		{"0800", api.ErrForm},
		{"2800", api.ErrForm},
		{"2801090000ff", api.ErrForm},
		{"ff", api.ErrForm},
		{"010007", api.ErrDict},
		{"02000700", api.ErrDict},
		{"020000070000", api.ErrDict},
		{"030000000001", api.ErrDict},
		{"210700", api.ErrDict},
		{"0100", api.ErrShort},
		{"21", api.ErrShort},
		{"2107", api.ErrShort},
		// Ahead of what is more than may be, the head's own error.
		{"01ff07", api.ErrDict},
		{"08ff", api.ErrForm},
		{"e1" + "07" + "ffffffffffffffff", api.ErrDict},
		{"e8" + "ffffffffffffffff", api.ErrForm},
		{"e0" + "ffffffffffffff", api.ErrShort},
		{"80ff" + "ffffff", api.ErrShort},
	} {
		wantRefused(t, free(), then(magic, byHex(c.head)), c.err)
		wantRefused(t, bounds{10, 0}, then(magic, byHex(c.head)), c.err)
		if c.err != api.ErrShort {
			wantRefused(t, free(), then(magic, byHex(c.head), each(20, 0)), c.err)
		}
	}
}

// The number of a dictionary may be told as 0, in any number of bytes; and the bit of 16 says nothing.
func TestHeadsThatTellTheSame(t *testing.T) {
	blocks := small().of(raw("ab"))[6:]
	for _, h := range []string{"0000", "010000", "02000000", "030000000000", "1000", "110000", "2002", "210002", "40000000", "c0000200000000000000"} {
		want := made("ab")
		if h == "40000000" { // of 256 bytes
			want = refusal(api.ErrForm)
		}
		wantDecoded(t, free(), then(number(framed, 4), byHex(h), blocks), want)
	}
}

// sameOf are blocks that make so many bytes, in as few of them as may be.
func sameOf(n int) [][]byte {
	var blocks [][]byte
	for ; n > mostBlock; n -= mostBlock {
		blocks = append(blocks, same('s', mostBlock))
	}
	return append(blocks, same('s', n))
}

func TestWindowAndLog(t *testing.T) {
	for log := 10; log <= 22; log++ {
		just := byte(8 * (log - 10))
		whole := raw("ab")
		wantDecoded(t, bounds{log, wide}, ofWindow(just).of(whole), made("ab"))
		if just > 0 {
			wantDecoded(t, bounds{log, wide}, ofWindow(just-1).of(whole), made("ab"))
		}
		for _, w := range []byte{just + 1, just + 2, just + 7, just + 8, 177, 247, 248, 255} {
			wantRefused(t, bounds{log, wide}, ofWindow(w).of(whole), api.ErrBig)
			wantRefused(t, bounds{log, wide}, ofWindow(w).bytes(), api.ErrBig) // ahead of blocks that lack
			wantRefused(t, bounds{log, wide}, head{window: w, known: true, size: 2}.of(whole), api.ErrBig)
		}
		n := 1 << log
		text := string(each(n, 's'))
		wantDecoded(t, bounds{log, wide}, segment(uint64(n)).of(sameOf(n)...), made(text))
		wantDecoded(t, bounds{log, n}, segment(uint64(n)).of(sameOf(n)...), made(text))
		wantDecoded(t, bounds{log, n - 1}, segment(uint64(n)).of(sameOf(n)...), refusal(api.ErrBig))
		wantDecoded(t, bounds{log, wide}, segment(uint64(n+1)).of(sameOf(n+1)...), refusal(api.ErrBig))
		wantDecoded(t, bounds{log, wide}, segment(uint64(n-1)).of(sameOf(n-1)...), made(text[1:]))
		// A frame may make more bytes than its window has.
		wantDecoded(t, bounds{log, wide}, ofWindow(just).of(append(sameOf(n), raw("s"))...), made(text+"s"))
		for _, size := range []uint64{uint64(n) + 1, 1 << 23, 1 << 32, 1<<32 + 1, 1 << 63, math.MaxUint64} {
			wantRefused(t, bounds{log, math.MaxInt}, segment(size).bytes(), api.ErrBig)
		}
	}
}

func TestSizeAndMost(t *testing.T) {
	for _, size := range []int{0, 1, 2, 3, 100, 1023, 1024} {
		text := strings.Repeat("z", size)
		for _, h := range []head{sized(uint64(size)), segment(uint64(size))} {
			b := h.of(raw(text))
			wantDecoded(t, bounds{10, size}, b, made(text))
			wantDecoded(t, bounds{10, size + 1}, b, made(text))
			wantDecoded(t, bounds{10, math.MaxInt}, b, made(text))
			// What frames ahead made counts.
			two := decoded{b: []byte("ab" + text), frames: 2}
			wantDecoded(t, bounds{10, size + 2}, then(small().of(raw("ab")), b), two)
			wantDecoded(t, bounds{10, size + 2}, then(segment(2).of(raw("ab")), b), two)
			wantDecoded(t, bounds{10, size + 1}, then(small().of(raw("ab")), b), refusal(api.ErrBig))
			wantDecoded(t, bounds{10, size + 1}, then(segment(2).of(raw("ab")), b), refusal(api.ErrBig))
			wantDecoded(t, bounds{10, size + 4}, then(small().of(raw("ab")), skipped(2, 7, 7, 7), small().of(raw("cd")), b), decoded{b: []byte("abcd" + text), frames: 3, skipped: 1})
			wantDecoded(t, bounds{10, size + 3}, then(small().of(raw("ab")), skipped(2, 7, 7, 7), small().of(raw("cd")), b), refusal(api.ErrBig))
			if size > 0 {
				wantRefused(t, bounds{10, size - 1}, b, api.ErrBig)
				wantRefused(t, bounds{10, 0}, b, api.ErrBig)
			}
		}
	}
	// It is told ahead of blocks: they needn't be there.
	for _, size := range []uint64{11, 12, 1 << 16, 1<<31 - 1, 1 << 31, 1 << 32, 1 << 62, 1<<63 - 1, 1 << 63, 1<<63 + 1, math.MaxUint64 - 1, math.MaxUint64} {
		wantRefused(t, bounds{10, 10}, sized(size).bytes(), api.ErrBig)
		wantRefused(t, bounds{22, 10}, segment(size).bytes(), api.ErrBig)
		wantRefused(t, bounds{10, 10}, then(sized(size).bytes(), block(3, 0)), api.ErrBig)
	}
	for _, size := range []uint64{1 << 63, 1<<63 + 1, math.MaxUint64 - 1, math.MaxUint64} {
		wantRefused(t, bounds{22, math.MaxInt}, sized(size).bytes(), api.ErrBig)
		wantRefused(t, bounds{22, math.MaxInt}, then(sized(size).of(raw("ab"))), api.ErrBig)
	}
	wantDecoded(t, bounds{22, math.MaxInt}, sized(math.MaxInt).bytes(), refusal(api.ErrShort))
	wantDecoded(t, bounds{22, math.MaxInt}, then(sized(2).of(raw("ab")), sized(math.MaxInt-2).bytes()), refusal(api.ErrShort))
	wantDecoded(t, bounds{22, math.MaxInt}, then(sized(2).of(raw("ab")), sized(math.MaxInt-1).bytes()), refusal(api.ErrBig))
	wantDecoded(t, bounds{10, 10}, sized(10).bytes(), refusal(api.ErrShort))
}

// A size that isn't told is no size of 0.
func TestSizeThatIsntTold(t *testing.T) {
	wantDecoded(t, bounds{10, 2}, small().of(raw("ab")), made("ab"))
	wantDecoded(t, bounds{10, 2}, sized(0).of(raw("ab")), refusal(api.ErrForm))
	wantDecoded(t, bounds{10, 0}, small().of(raw("")), made(""))
	wantDecoded(t, bounds{10, 0}, sized(0).of(raw("")), made(""))
}

// P16.1: how many bytes all frames make

func TestMost(t *testing.T) {
	five := [][]byte{
		small().of(raw("abcde")),
		small().of(raw("ab"), raw(""), raw("cde")),
		small().of(same('a', 5)),
		small().of(same('a', 4), raw("a")),
		small().of(packed(plain("abcde"), row())),
		small().of(packed(plain("a"), row(from(1, 4, 1)))),
		small().of(raw("ab"), packed(plain(""), row(from(0, 3, 2)))),
		then(small().withSum().of(raw("abcde")), sumOf("abcde")),
		sized(5).of(raw("abcde")),
		segment(5).of(raw("abc"), raw("de")),
	}
	for _, one := range five {
		got := wantAsInWords(t, bounds{10, 5}, one)
		if len(got.b) != 5 || got.err != api.OK {
			t.Errorf("%x: %v", one, got)
		}
		for most := range 5 {
			wantRefused(t, bounds{10, most}, one, api.ErrBig)
		}
		for _, other := range five {
			first, second := free().inWords(one), free().inWords(other)
			both := decoded{b: then(first.b, second.b), frames: 2}
			wantDecoded(t, bounds{10, 10}, then(one, other), both)
			wantDecoded(t, bounds{10, 11}, then(one, other), both)
			wantDecoded(t, bounds{10, 9}, then(one, other), refusal(api.ErrBig))
			wantDecoded(t, bounds{10, 5}, then(one, other), refusal(api.ErrBig))
			wantDecoded(t, bounds{10, 4}, then(one, other), refusal(api.ErrBig))
		}
	}
}

// It is told behind the block that makes too many, whatever stands behind that.
func TestMostIsToldBehindEachBlock(t *testing.T) {
	for _, over := range [][]byte{raw("abc"), same('a', 3), packed(plain("abc"), row())} {
		for _, behind := range [][]byte{nil, {0}, block(3, 0), raw("d"), block(0, 2000), raw("")} {
			wantRefused(t, bounds{10, 2}, then(small().bytes(), over, behind), api.ErrBig)
			wantRefused(t, bounds{10, 2}, then(small().withSum().bytes(), over, behind), api.ErrBig)
			wantRefused(t, bounds{10, 4}, then(small().bytes(), raw("zz"), over, behind), api.ErrBig)
		}
		// Its own errors are told ahead.
		wantDecoded(t, bounds{10, 2}, then(small().bytes(), over)[:len(small().bytes())+3], refusal(api.ErrShort))
	}
	wantRefused(t, bounds{10, 2}, small().of(raw("ab"), block(0, 1025)), api.ErrBig)
	wantRefused(t, bounds{10, 2}, small().of(raw("ab"), block(0, 1)), api.ErrShort)
	wantRefused(t, bounds{10, 2}, small().of(raw("ab"), packed(plain("abc"), row(), []byte{0})), api.ErrLeft)
	wantRefused(t, bounds{10, 2}, small().of(raw("ab"), packed(plain("abc"), row(from(3, 3, 6)))), api.ErrOffset)
	wantRefused(t, bounds{10, 2}, then(small().withSum().of(raw("abc")), each(4, 0)), api.ErrBig)
}

// P16.1: a size that is told, and how many bytes there are

func TestMoreBytesThanTold(t *testing.T) {
	for _, h := range []head{sized(4), sized(4).withSum(), {window: 16, known: true, size: 4}} {
		for _, more := range [][]byte{raw("abc"), same('a', 3), packed(plain("abc"), row()), packed(plain(""), row(from(0, 3, 2)))} {
			// Also in a block that isn't the last one, whatever stands behind.
			for _, behind := range [][]byte{nil, {0}, block(3, 0), block(0, 2000), raw(""), each(10, 0)} {
				wantRefused(t, free(), then(h.bytes(), raw("zz"), more, behind), api.ErrForm)
			}
			b := h.of(raw("zz"), more)
			wantRefused(t, free(), b, api.ErrForm)
			wantRefused(t, free(), then(b, each(4, 0)), api.ErrForm)
			wantRefused(t, free(), then(b, sumOf("zzabc")), api.ErrForm)
			// That they are more than all may make is told ahead of that.
			wantRefused(t, bounds{12, 5}, b, api.ErrForm)
			wantRefused(t, bounds{12, 4}, b, api.ErrBig)
		}
	}
	wantDecoded(t, bounds{10, 5}, sized(4).of(raw("abcde")), refusal(api.ErrForm))
	wantDecoded(t, bounds{10, 4}, sized(4).of(raw("abcde")), refusal(api.ErrBig))
	wantDecoded(t, bounds{10, 7}, then(sized(2).of(raw("ab")), sized(4).of(raw("abcde"))), refusal(api.ErrForm))
	wantDecoded(t, bounds{10, 6}, then(sized(2).of(raw("ab")), sized(4).of(raw("abcde"))), refusal(api.ErrBig))
	wantDecoded(t, free(), segment(4).of(raw("abcd"), raw("e")), refusal(api.ErrForm))
	wantDecoded(t, free(), segment(4).of(raw("abcd"), raw("")), made("abcd"))
	wantDecoded(t, free(), segment(4).of(raw("abcd"), same('x', 0)), made("abcd"))
	wantDecoded(t, free(), sized(0).of(raw("a")), refusal(api.ErrForm))
}

func TestFewerBytesThanTold(t *testing.T) {
	for _, h := range []head{sized(4), sized(4).withSum(), segment(4), segment(4).withSum()} {
		for _, fewer := range []string{"", "a", "abc"} {
			b := h.of(raw(fewer))
			wantRefused(t, free(), b, api.ErrForm)
			// Ahead of all that might be said of a sum, or of what stands behind.
			wantRefused(t, free(), then(b, sumOf(fewer)), api.ErrForm)
			wantRefused(t, free(), then(b, each(4, 0)), api.ErrForm)
			wantRefused(t, free(), then(b, h.of(raw("abcd"))), api.ErrForm)
			b = h.of(raw(fewer), raw(""), same('a', 0))
			wantRefused(t, free(), b, api.ErrForm)
		}
		b := h.of(raw("a"), raw("bcd"))
		if h.sum {
			b = then(b, sumOf("abcd"))
		}
		wantDecoded(t, free(), b, made("abcd"))
	}
	// What other frames make doesn't count.
	wantDecoded(t, free(), then(small().of(raw("ab")), sized(4).of(raw("cd"))), refusal(api.ErrForm))
	wantDecoded(t, free(), then(sized(4).of(raw("ab")), small().of(raw("cd"))), refusal(api.ErrForm))
}

// P16.1: sums

func TestSum(t *testing.T) {
	// As another program has them.
	wantDecoded(t, free(), byHex("28b52ffd2400010000"+"99e9d851"), made(""))
	wantDecoded(t, free(), byHex("28b52ffd240109000061"+"5b6e8ca9"), made("a"))

	for _, text := range []string{"", "a", "ab", "abcdefgh", strings.Repeat("lighterman ", 90)} {
		for _, h := range []head{small().withSum(), sized(uint64(len(text))).withSum(), segment(uint64(len(text))).withSum()} {
			b, sum := h.of(raw(text)), sumOf(text)
			wantDecoded(t, free(), then(b, sum), made(text))
			for n := range 4 {
				wantRefused(t, free(), then(b, sum[:n]), api.ErrShort)
			}
			for bit := range 32 {
				other := slices.Clone(sum)
				other[bit/8] ^= 1 << (bit % 8)
				wantRefused(t, free(), then(b, other), api.ErrSum)
				wantRefused(t, free(), then(b, other, b, sum), api.ErrSum)
				wantRefused(t, free(), then(b, other, []byte{1}), api.ErrSum)
			}
			other := slices.Clone(sum)
			slices.Reverse(other)
			wantRefused(t, free(), then(b, other), api.ErrSum)
		}
	}
}

// The upper half of a sum isn't told, and of what isn't told to be there nothing is read.
func TestSumThatIsntThere(t *testing.T) {
	wantDecoded(t, free(), then(small().withSum().of(raw("a")), byHex("ec44d2")), refusal(api.ErrShort))
	wantDecoded(t, free(), then(small().withSum().of(raw("a")), byHex("6e8ca95b")), refusal(api.ErrSum))
	wantRefused(t, free(), then(small().of(raw("a")), sumOf("a")), api.ErrForm)
	wantRefused(t, free(), then(small().of(raw("a")), sumOf("a")[:3]), api.ErrShort)
}

// A sum is that of all bytes of its own frame.
func TestSumOfOneFrame(t *testing.T) {
	h := small().withSum()
	one, other := h.of(raw("ab"), same('c', 3), packed(plain("de"), row(from(2, 3, 7)))), h.of(raw("xyz"))
	text := "abcccdeabc"
	wantDecoded(t, free(), then(one, sumOf(text), other, sumOf("xyz")), decoded{b: []byte(text + "xyz"), frames: 2})
	wantRefused(t, free(), then(one, sumOf(text), other, sumOf(text+"xyz")), api.ErrSum)
	wantRefused(t, free(), then(one, sumOf("deabc"), other, sumOf("xyz")), api.ErrSum)
	wantRefused(t, free(), then(one, sumOf("xyz"), other, sumOf(text)), api.ErrSum)
}

// P16.1: bytes behind

func TestBytesBehindTheLastFrame(t *testing.T) {
	for _, b := range [][]byte{
		small().of(raw("ab")),
		segment(2).of(raw("ab")),
		then(small().withSum().of(raw("ab")), sumOf("ab")),
		small().of(same('a', 2)),
		small().of(packed(plain("ab"), row())),
	} {
		for n := 1; n < 4; n++ {
			wantRefused(t, free(), then(b, each(n, 0)), api.ErrShort)
		}
		wantRefused(t, free(), then(b, each(4, 0)), api.ErrForm)
		wantRefused(t, free(), then(b, each(400, 0)), api.ErrForm)
		wantRefused(t, free(), then(b, raw("ab")), api.ErrForm)
		wantDecoded(t, free(), then(b, b), decoded{b: then(free().inWords(b).b, free().inWords(b).b), frames: 2})
	}
}

// Every frame that ends too early is refused, wherever it ends.
func TestFramesThatEndTooEarly(t *testing.T) {
	blocks := [][]byte{raw("abcd"), same('x', 5), packed(plain("de"), row(from(2, 3, 7))), raw("")}
	text := "abcdxxxxxdexxx"
	for _, h := range []head{small(), small().withSum(), sized(14), sized(14).withSum(), segment(14).withSum()} {
		b := h.of(blocks...)
		if h.sum {
			b = then(b, sumOf(text))
		}
		wantDecoded(t, free(), b, made(text))
		for n := range b {
			want := refusal(api.ErrShort)
			if n == 0 {
				want = decoded{}
			}
			wantDecoded(t, free(), b[:n], want)
		}
	}
}

// P16.1: the first error is that of the first frame that has one, beside which nothing else is told.
func TestErrorsOfFramesOneBehindTheOther(t *testing.T) {
	bad := map[api.Errno][]byte{
		api.ErrForm:   small().of(block(3, 0)),
		api.ErrBig:    ofWindow(255).bytes(),
		api.ErrSum:    then(small().withSum().of(raw("a")), each(4, 0)),
		api.ErrDict:   then(number(framed, 4), []byte{1, 0, 7}),
		api.ErrOffset: small().of(packed(plain("a"), row(from(1, 3, 2)))),
		api.ErrLeft:   small().of(packed(plain("a"), row(), []byte{0})),
	}
	for err, b := range bad {
		wantRefused(t, free(), b, err)
		for _, other := range bad {
			wantRefused(t, free(), then(b, other), err)
			wantRefused(t, free(), then(small().of(raw("ab")), skipped(1), b, other), err)
		}
		wantRefused(t, free(), then(b, []byte{1}), err)
		wantDecoded(t, bounds{9, wide}, b, refusal(api.ErrArg))
		wantDecoded(t, bounds{10, -1}, b, refusal(api.ErrArg))
	}
}

// P16.2

func TestFrames(t *testing.T) {
	kinds := [][]byte{small().of(raw("ab")), segment(0).of(raw("")), skipped(4), skipped(15, 1, 2, 3), small().of(same('c', 3))}
	texts := []string{"ab", "", "", "", "ccc"}
	var add func(b []byte, want decoded, depth int)
	add = func(b []byte, want decoded, depth int) {
		wantDecoded(t, free(), b, want)
		wantRefused(t, free(), then(b, []byte{1}), api.ErrShort)
		if depth == 0 {
			return
		}
		for i, kind := range kinds {
			next := want
			next.b = then(want.b, []byte(texts[i]))
			if i == 2 || i == 3 {
				next.skipped++
			} else {
				next.frames++
			}
			add(then(b, kind), next, depth-1)
		}
	}
	add(nil, decoded{}, 4)
}

func TestManyFrames(t *testing.T) {
	var b []byte
	var want decoded
	for i := range 3000 {
		if i%3 == 1 {
			b = append(b, skipped(i%16, each(i%5, byte(i))...)...)
			want.skipped++
			continue
		}
		text := fmt.Sprint(i)
		b = append(b, small().of(raw(text))...)
		want.b = append(want.b, text...)
		want.frames++
	}
	wantDecoded(t, bounds{10, len(want.b)}, b, want)
	wantDecoded(t, bounds{10, len(want.b) - 1}, b, refusal(api.ErrBig))
}

// A frame's blocks may be many, and each may reach back.
func TestManyBlocks(t *testing.T) {
	var blocks [][]byte
	var text strings.Builder
	for i := range 3000 {
		switch i % 3 {
		case 0:
			word := fmt.Sprint(i)
			blocks = append(blocks, raw(word))
			text.WriteString(word)
		case 1:
			blocks = append(blocks, packed(must(literals.Same('-', 2)), row(from(2, 3, 3))))
			so := text.String()
			last := so[len(so)-1:]
			text.WriteString("--" + last + "--")
		case 2:
			blocks = append(blocks, same('.', i%4))
			text.WriteString(strings.Repeat(".", i%4))
		}
	}
	wantDecoded(t, bounds{10, text.Len()}, small().of(blocks...), made(text.String()))
	wantDecoded(t, bounds{10, text.Len() - 1}, small().of(blocks...), refusal(api.ErrBig))
	wantDecoded(t, bounds{10, text.Len()}, sized(uint64(text.Len())).of(blocks...), made(text.String()))
}
