package huff_test

import (
	"bytes"
	"encoding/hex"
	"fmt"
	"math"
	"math/rand/v2"
	"slices"
	"strconv"
	"strings"
	"testing"

	"lighterman/api"
	"lighterman/huff"
	"lighterman/weights"
)

const maxBlock = 131072

func ExampleDecode() {
	l, err := huff.Decode([]byte{1, 1}, []byte{13}, 3)
	fmt.Println(l, err == api.OK)
	// Output: [1 0 1] true
}

func ExampleEncode() {
	b, err := huff.Encode([]byte{2, 1, 1}, []byte{0, 1, 2, 0}) // 1, 00, 01, 1
	fmt.Printf("%b %v\n", b, err == api.OK)
	// Output: [1100011] true
}

func ExampleEncode4() {
	b, err := huff.Encode4([]byte{2, 1, 1}, []byte{0, 1, 2, 0})
	fmt.Println(b, err == api.OK)
	l, err := huff.Decode4([]byte{2, 1, 1}, b, 4)
	fmt.Println(l, err == api.OK)
	// Output:
	// [1 0 1 0 1 0 3 4 5 3] true
	// [0 1 2 0] true
}

// each is a list of n times the same.
func each[T any](n int, x T) []T { return slices.Repeat([]T{x}, n) }

// then are lists one behind the other.
func then(lists ...[]byte) []byte { return slices.Concat(lists...) }

// falling are the weights from 11 down to 1, and 1 once more: codes of 1 to 11 bits, each but the last two noughts and a 1.
func falling() []byte { return []byte{11, 10, 9, 8, 7, 6, 5, 4, 3, 2, 1, 1} }

// spelt are the codes of weights in digits, the highest bit first; "" where there is none.
func spelt(l []byte) []string {
	codes, err := weights.Codes(l)
	if err != api.OK {
		panic(err)
	}
	all := make([]string, len(codes))
	for symbol, c := range codes {
		if c.Bits > 0 {
			all[symbol] = fmt.Sprintf("%0*b", c.Bits, c.Code)
		}
	}
	return all
}

// digits are a stream's bits in the order in which they are read, and whether it has one that ends it.
func digits(b []byte) (string, bool) {
	if len(b) == 0 || b[len(b)-1] == 0 {
		return "", false
	}
	var all strings.Builder
	for _, c := range slices.Backward(b) {
		fmt.Fprintf(&all, "%08b", c)
	}
	_, behind, _ := strings.Cut(all.String(), "1")
	return behind, true
}

// stream are the bytes that are read as these digits.
func stream(fields ...string) []byte {
	all := "1" + strings.Join(fields, "")
	all = strings.Repeat("0", (8-len(all)%8)%8) + all
	var b []byte
	for at := len(all) - 8; at >= 0; at -= 8 {
		x, err := strconv.ParseUint(all[at:at+8], 2, 8)
		if err != nil {
			panic(err)
		}
		b = append(b, byte(x))
	}
	return b
}

// decodeInWords is what P9.1 says of Decode.
func decodeInWords(l, b []byte, n int) ([]byte, api.Errno) {
	if _, err := weights.Codes(l); err != api.OK {
		return nil, err
	}
	if n < 0 || n > maxBlock {
		return nil, api.ErrArg
	}
	there, fine := digits(b)
	if !fine {
		return nil, api.ErrForm
	}
	symbolOf := map[string]byte{}
	for symbol, code := range spelt(l) {
		if code != "" {
			symbolOf[code] = byte(symbol)
		}
	}
	padded := there + strings.Repeat("0", 11*n)
	var told []byte
	at := 0
	for range n {
		size := 1
		for ; ; size++ {
			if symbol, is := symbolOf[padded[at:at+size]]; is {
				told = append(told, symbol)
				break
			}
		}
		at += size
	}
	switch {
	case at > len(there):
		return nil, api.ErrForm
	case at < len(there):
		return nil, api.ErrLeft
	}
	return told, api.OK
}

// shares is how many of n symbols each of four streams has; fine: the first three's are there.
func shares(n int) (counts [4]int, fine bool) {
	for i := range 3 {
		counts[i] = (n + 3) / 4
	}
	counts[3] = n - counts[0] - counts[1] - counts[2]
	return counts, counts[3] >= 0
}

// decode4InWords is what P9.2 says of Decode4.
func decode4InWords(l, b []byte, n int) ([]byte, api.Errno) {
	if _, err := weights.Codes(l); err != api.OK {
		return nil, err
	}
	if n < 0 || n > maxBlock {
		return nil, api.ErrArg
	}
	counts, fine := shares(n)
	switch {
	case !fine:
		return nil, api.ErrForm
	case len(b) < 6:
		return nil, api.ErrShort
	}
	at := 6
	var ends [4]int
	for i := range 3 {
		at += int(b[2*i]) + 256*int(b[2*i+1])
		ends[i] = at
	}
	if at > len(b) {
		return nil, api.ErrShort
	}
	ends[3] = len(b)
	var told []byte
	at = 6
	for i, end := range ends {
		some, err := decodeInWords(l, b[at:end], counts[i])
		if err != api.OK {
			return nil, err
		}
		told = append(told, some...)
		at = end
	}
	return told, api.OK
}

// encodeInWords is the stream of symbols that have codes.
func encodeInWords(l, symbols []byte) []byte {
	codes := spelt(l)
	fields := make([]string, len(symbols))
	for i, symbol := range symbols {
		fields[i] = codes[symbol]
	}
	return stream(fields...)
}

// join4 are four streams, ahead of them how many bytes the first three have.
func join4(parts [4][]byte) []byte {
	var head []byte
	for _, b := range parts[:3] {
		head = append(head, byte(len(b)%256), byte(len(b)/256))
	}
	return then(head, parts[0], parts[1], parts[2], parts[3])
}

// parts4 are the four streams of symbols that have codes.
func parts4(l, symbols []byte) [4][]byte {
	counts, fine := shares(len(symbols))
	if !fine {
		panic("no four streams")
	}
	var parts [4][]byte
	for i, n := range counts {
		parts[i] = encodeInWords(l, symbols[:n])
		symbols = symbols[n:]
	}
	return parts
}

// encode4InWords are the four streams of symbols, behind their sizes.
func encode4InWords(l, symbols []byte) []byte { return join4(parts4(l, symbols)) }

// decoder is Decode or Decode4, encoder Encode or Encode4.
type decoder func(l, b []byte, n int) ([]byte, api.Errno)
type encoder func(l, symbols []byte) ([]byte, api.Errno)

// want fails, unless a decoder tells this; beside an error nothing else may be told.
func (decode decoder) want(t *testing.T, l, b []byte, n int, want []byte, wantErr api.Errno) {
	t.Helper()
	keptL, keptB := slices.Clone(l), slices.Clone(b)
	told, err := decode(l, b, n)
	if !bytes.Equal(told, want) || err != wantErr || err != api.OK && told != nil {
		t.Errorf("weights %d, %d symbols of %d bytes %d: %d, %d; want %d, %d", l, n, len(b), few(b), few(told), err, few(want), wantErr)
	}
	clear(told)
	if !bytes.Equal(l, keptL) || !bytes.Equal(b, keptB) {
		t.Errorf("weights %d or bytes %d were changed, or share memory with the answer", keptL, few(keptB))
	}
}

func (decode decoder) wantErr(t *testing.T, l, b []byte, n int, want api.Errno) {
	t.Helper()
	decode.want(t, l, b, n, nil, want)
}

// want fails, unless an encoder tells this; beside an error nothing else may be told.
func (encode encoder) want(t *testing.T, l, symbols, want []byte, wantErr api.Errno) {
	t.Helper()
	keptL, keptSymbols := slices.Clone(l), slices.Clone(symbols)
	b, err := encode(l, symbols)
	if !bytes.Equal(b, want) || err != wantErr || err != api.OK && b != nil {
		t.Errorf("weights %d, %d symbols %d: %d, %d; want %d, %d", l, len(symbols), few(symbols), few(b), err, few(want), wantErr)
	}
	clear(b)
	if !bytes.Equal(l, keptL) || !bytes.Equal(symbols, keptSymbols) {
		t.Errorf("weights %d or symbols %d were changed, or share memory with the answer", keptL, few(keptSymbols))
	}
}

func (encode encoder) wantErr(t *testing.T, l, symbols []byte) {
	t.Helper()
	encode.want(t, l, symbols, nil, api.ErrArg)
}

// few are the first bytes, to be told.
func few(b []byte) []byte { return b[:min(len(b), 40)] }

var (
	decode  decoder = huff.Decode
	decode4 decoder = huff.Decode4
	encode  encoder = huff.Encode
	encode4 encoder = huff.Encode4
)

// wantBothWays fails, unless symbols have this stream, and it has them.
func wantBothWays(t *testing.T, l, symbols, b []byte) {
	t.Helper()
	encode.want(t, l, symbols, b, api.OK)
	decode.want(t, l, b, len(symbols), symbols, api.OK)
}

func wantBothWays4(t *testing.T, l, symbols, b []byte) {
	t.Helper()
	encode4.want(t, l, symbols, b, api.OK)
	decode4.want(t, l, b, len(symbols), symbols, api.OK)
}

// split are n whole weights of chance of this depth, in any order, and noughts among them, size in all.
func split(r *rand.Rand, n, depth, size int) []byte {
	l := []byte{byte(depth), byte(depth)}
	for len(l) < n {
		i := r.IntN(len(l))
		if l[i] > 1 {
			l[i]--
			l = append(l, l[i])
		}
	}
	all := make([]byte, size)
	places := append(r.Perm(size - 1)[:n-1], size-1)
	for i, place := range r.Perm(n) {
		all[places[i]] = l[place]
	}
	return all
}

// someWeights are whole weights of chance.
func someWeights(r *rand.Rand) []byte {
	size := 2 + r.IntN(255)
	if r.IntN(2) == 0 {
		size = 2 + r.IntN(14)
	}
	n := 2 + r.IntN(size-1)
	depth := 1
	for 1<<depth < n {
		depth++
	}
	return split(r, n, depth+r.IntN(12-depth), size)
}

// having are the symbols that have a code.
func having(l []byte) []byte {
	var all []byte
	for symbol, w := range l {
		if w > 0 {
			all = append(all, byte(symbol))
		}
	}
	return all
}

// someSymbols are n symbols of chance that have codes: each one as likely as another, or the likelier, the shorter its code.
func someSymbols(r *rand.Rand, l []byte, n int) []byte {
	all := having(l)
	if r.IntN(2) == 0 {
		for _, symbol := range all {
			all = append(all, each(1<<(l[symbol]-1)-1, symbol)...)
		}
	}
	symbols := make([]byte, n)
	for i := range symbols {
		symbols[i] = all[r.IntN(len(all))]
	}
	return symbols
}

// mixed are weights at the edges and between them.
func mixed() [][]byte {
	all := [][]byte{
		{1, 1}, {2, 2}, {11, 11}, {2, 1, 1}, {1, 2, 1}, {1, 1, 2}, {0, 1, 1}, {1, 0, 0, 1}, {2, 0, 1, 0, 0, 1}, {3, 3, 3, 3}, {4, 3, 2, 0, 1, 1},
		falling(), then([]byte{1, 0}, falling()[:11]), {11, 10, 10}, {10, 10, 10, 10},
		each[byte](256, 1), each[byte](256, 4), each[byte](128, 1), then(each[byte](254, 0), []byte{1, 1}), then([]byte{1}, each[byte](254, 0), []byte{1}),
		then(each[byte](244, 0), falling()),
	}
	slices.Reverse(all[len(all)-1][244:255])
	return all
}

// refused are lists that may not be as weights.
func refused() [][]byte {
	return [][]byte{nil, {}, {0}, {1}, {11}, {0, 0}, {0, 1}, {1, 1, 0}, {1, 1, 1}, {2, 1}, {0, 2}, {12, 12}, {1, 1, 65}, {255, 255}, {11, 11, 11, 11}, each[byte](256, 0), each[byte](257, 1), then([]byte{0}, each[byte](256, 1))}
}

// The chapter's example, and its streams of fewer and more symbols.
func TestDecodeOfTheExample(t *testing.T) {
	for n := -3; n < 40; n++ {
		switch {
		case n < 0:
			decode.wantErr(t, []byte{1, 1}, []byte{13}, n, api.ErrArg)
		case n < 3:
			decode.wantErr(t, []byte{1, 1}, []byte{13}, n, api.ErrLeft)
		case n == 3:
			decode.want(t, []byte{1, 1}, []byte{13}, n, []byte{1, 0, 1}, api.OK)
		default:
			decode.wantErr(t, []byte{1, 1}, []byte{13}, n, api.ErrForm)
		}
	}
}

// P9.1 and P9.3

func TestStreamsWrittenOut(t *testing.T) {
	for _, c := range []struct{ l, symbols, b []byte }{
		// Codes of one bit: 0, 1.
		{[]byte{1, 1}, nil, []byte{1}},
		{[]byte{1, 1}, []byte{0}, []byte{0b10}},
		{[]byte{1, 1}, []byte{1}, []byte{0b11}},
		{[]byte{1, 1}, []byte{1, 0, 1}, []byte{13}},
		{[]byte{2, 2}, []byte{1, 0, 1}, []byte{13}},
		{[]byte{11, 11}, []byte{1, 0, 1}, []byte{13}},
		{[]byte{0, 1, 0, 1}, []byte{3, 1, 3}, []byte{13}},
		{[]byte{1, 1}, []byte{1, 0, 1, 1, 0, 0, 1}, []byte{0b11011001}},
		{[]byte{1, 1}, []byte{1, 0, 1, 1, 0, 0, 1, 1}, []byte{0b10110011, 1}},
		{[]byte{1, 1}, []byte{1, 0, 1, 1, 0, 0, 1, 1, 0}, []byte{0b01100110, 0b11}},
		{[]byte{1, 1}, make([]byte, 8), []byte{0, 1}},
		// 1, 00, 01.
		{[]byte{2, 1, 1}, nil, []byte{1}},
		{[]byte{2, 1, 1}, []byte{0}, []byte{0b11}},
		{[]byte{2, 1, 1}, []byte{1}, []byte{0b100}},
		{[]byte{2, 1, 1}, []byte{2}, []byte{0b101}},
		{[]byte{2, 1, 1}, []byte{0, 1, 2, 0}, []byte{0b1100011}},
		{[]byte{2, 1, 1}, []byte{0, 1, 2, 0, 2}, []byte{0b10001101, 1}},
		{[]byte{2, 1, 1}, []byte{0, 1, 2, 0, 2, 1}, []byte{0b00110100, 0b110}},
		// 1, none, 00, 01.
		{[]byte{2, 0, 1, 1}, []byte{0, 2, 3, 0}, []byte{0b1100011}},
		// 1, 000, 01, 001.
		{[]byte{3, 1, 2, 1}, []byte{1, 3, 2, 0}, []byte{0b00001011, 0b10}},
		// 1, 01, 001 and so on, eleven noughts, ten and a 1.
		{falling(), []byte{0}, []byte{0b11}},
		{falling(), []byte{9}, []byte{1, 0b100}},
		{falling(), []byte{10}, []byte{0, 0b1000}},
		{falling(), []byte{11}, []byte{1, 0b1000}},
		{falling(), []byte{11, 10, 0}, []byte{1, 0b0001_0000, 0b1000_0000}},
		// Each byte is its own code.
		{each[byte](256, 1), []byte{7}, []byte{7, 1}},
		{each[byte](256, 3), []byte{0, 1, 128, 255}, []byte{255, 128, 1, 0, 1}},
		// The last two of 256: 0, 1.
		{then(each[byte](254, 0), []byte{5, 5}), []byte{255, 254, 255}, []byte{13}},
	} {
		wantBothWays(t, c.l, c.symbols, c.b)
		told, err := decodeInWords(c.l, c.b, len(c.symbols))
		if b := encodeInWords(c.l, c.symbols); !bytes.Equal(b, c.b) || !bytes.Equal(told, c.symbols) || err != api.OK {
			t.Errorf("%d in words: %d; %d, %d", c.symbols, b, told, err)
		}
	}
}

// byHex are bytes of digits by 16.
func byHex(text string) []byte {
	b, err := hex.DecodeString(text)
	if err != nil {
		panic(err)
	}
	return b
}

// weightsFrom are noughts ahead of a symbol, and weights from it on, one digit each, by 16.
func weightsFrom(symbol byte, text string) []byte {
	l := make([]byte, symbol)
	for _, digit := range text {
		l = append(l, byte(strings.IndexRune("0123456789ab", digit)))
	}
	return l
}

// The streams were written by another program of the format.
func TestStreamsWrittenElsewhere(t *testing.T) {
	barge := weightsFrom(' ', "4"+strings.Repeat("0", 64)+"3301302000000200020200201")
	wantBothWays(t, barge, []byte("a barge went by and a barge went by"), byHex("8193b46eccf806b2032769dd98f105"))

	few := []byte(strings.Repeat("a", 40) + strings.Repeat("b", 17) + "cccccdddefg" + strings.Repeat("ba", 20))
	l := weightsFrom('a', "6543211")
	wantBothWays(t, l, few, byHex("dbb66ddbb66ddb16002122922455555555fdffffffff07"))
	wantBothWays4(t, l, few, byHex("040006000900ffffff0f555555f5ff036ddb16002122922455dbb66ddbb601"))

	long := []byte("the lighterman takes the file over the water, part by part; what is lost is asked for again, what is forged is thrown overboard, and at last the file is there")
	l = weightsFrom(' ', "700000000000300000000000000200000000000000000000000000000000000005204543550241442055602301")
	wantBothWays(t, l, long, byHex("85653def2a472eeb4d2a971e861e06d2116015cea638683def51041e72de252b1ecc1141e3218f1a249d77f394f32e5971a0488403041789f080552a2eeb588573952397f5ac017543005835e2ca650d"))
	wantBothWays4(t, l, long, byHex("150015001500c5651dab70ae72e4b29e35a06e0800ab465cb9ac0135483aefe629e75db2e240910807082e12e101ab1485b3290e5acf7b1481879c77c98a077344d078c82385653def2a472eeb4d2a971e861e06d2116005"))
}

func TestWeightsThatMayNotBe(t *testing.T) {
	for _, l := range refused() {
		for _, n := range []int{-1, 0, 1, 3, maxBlock, maxBlock + 1} {
			for _, b := range [][]byte{nil, {0}, {1}, {13}, {1, 0, 1, 0, 1, 0, 3, 4, 5, 3}} {
				decode.wantErr(t, l, b, n, api.ErrArg)
				decode4.wantErr(t, l, b, n, api.ErrArg)
			}
		}
		for _, symbols := range [][]byte{nil, {0}, {0, 0, 0}, {0, 1, 1, 0}, {200}, make([]byte, maxBlock+1)} {
			encode.wantErr(t, l, symbols)
			encode4.wantErr(t, l, symbols)
		}
	}
}

func TestDecodeOfHowManySymbols(t *testing.T) {
	for _, n := range []int{math.MinInt, math.MinInt32, -maxBlock, -4, -1, maxBlock + 1, maxBlock + 3, 2 * maxBlock, math.MaxInt32, math.MaxInt} {
		// Ahead of what the bytes are.
		for _, b := range [][]byte{nil, {0}, {1}, {13}, then(make([]byte, maxBlock/8), []byte{3})} {
			decode.wantErr(t, []byte{1, 1}, b, n, api.ErrArg)
			decode.wantErr(t, falling(), b, n, api.ErrArg)
		}
	}
	// As many as there may be, and one fewer, by codes of 1, 8 and 11 bits.
	for _, n := range []int{maxBlock - 1, maxBlock} {
		r := rand.New(rand.NewPCG(9, uint64(n)))
		for _, c := range []struct{ l, of []byte }{{[]byte{1, 1}, []byte{0, 1}}, {each[byte](256, 1), having(each[byte](256, 1))}, {falling(), []byte{10, 11}}} {
			symbols := make([]byte, n)
			for i := range symbols {
				symbols[i] = c.of[r.IntN(len(c.of))]
			}
			wantBothWays(t, c.l, symbols, encodeInWords(c.l, symbols))
		}
	}
}

func TestDecodeOfBytesThatAreNoStream(t *testing.T) {
	for _, l := range mixed() {
		for _, n := range []int{0, 1, 2, 3, 8, 100, maxBlock} {
			for _, b := range [][]byte{nil, {}, {0}, {0, 0}, {1, 0}, {13, 0}, {255, 255, 0}, each[byte](100, 0), then(each[byte](100, 85), []byte{0})} {
				decode.wantErr(t, l, b, n, api.ErrForm)
			}
		}
	}
}

func TestDecodeOfJustTheBitThatEnds(t *testing.T) {
	for _, l := range mixed() {
		decode.want(t, l, []byte{1}, 0, nil, api.OK)
		for _, n := range []int{1, 2, 3, 11, 1000, maxBlock} {
			decode.wantErr(t, l, []byte{1}, n, api.ErrForm)
		}
	}
}

func TestDecodeOfBitsThatLack(t *testing.T) {
	for _, l := range mixed() {
		codes := spelt(l)
		for _, symbol := range having(l) {
			code := codes[symbol]
			for _, ahead := range [][]byte{nil, {symbol}, each(7, symbol), each(100, symbol)} {
				var all string
				for _, s := range ahead {
					all += codes[s]
				}
				n := len(ahead)
				decode.want(t, l, stream(all, code), n+1, then(ahead, []byte{symbol}), api.OK)
				for size := range len(code) {
					// The last symbol lacks a bit or more, though noughts are read for them.
					decode.wantErr(t, l, stream(all, code[:size]), n+1, api.ErrForm)
					// Bits lack ahead of the last one.
					decode.wantErr(t, l, stream(all, code[:size]), n+2, api.ErrForm)
					decode.wantErr(t, l, stream(all, code[:size]), n+20, api.ErrForm)
				}
			}
		}
	}
}

func TestDecodeOfBitsThatAreLeft(t *testing.T) {
	for _, l := range mixed() {
		codes := spelt(l)
		symbols := having(l)
		for _, symbol := range []byte{symbols[0], symbols[len(symbols)/2], symbols[len(symbols)-1]} {
			for _, n := range []int{0, 1, 2, 9, 50} {
				all := strings.Repeat(codes[symbol], n)
				decode.want(t, l, stream(all), n, each(n, symbol), api.OK)
				for _, left := range []string{"0", "1", "00", "01", "1111111", "00000000", "100000001", strings.Repeat("0", 64), strings.Repeat("1", 65), strings.Repeat("01", 4000)} {
					decode.wantErr(t, l, stream(all, left), n, api.ErrLeft)
				}
			}
		}
	}
}

// All streams of up to 12 bits, and so many symbols of them that bits are left, that they are told, and that bits lack. What is told is told by this stream alone (P9.4).
func TestDecodeOfAllShortStreams(t *testing.T) {
	for _, l := range [][]byte{{1, 1}, {2, 1, 1}, {1, 0, 2, 1}, {3, 1, 2, 1}, falling()} {
		for x := 1; x < 1<<13; x++ {
			b := stream(strconv.FormatInt(int64(x), 2)[1:])
			whole := 0
			for n := range 15 {
				want, wantErr := decodeInWords(l, b, n)
				told, err := huff.Decode(l, b, n)
				if !bytes.Equal(told, want) || err != wantErr {
					t.Fatalf("weights %d, %d symbols of %d: %d, %d; want %d, %d", l, n, b, told, err, want, wantErr)
				}
				if err != api.OK {
					continue
				}
				whole++
				if again, err := huff.Encode(l, told); !bytes.Equal(again, b) || err != api.OK {
					t.Fatalf("weights %d: %d tells %d, but that has %d, %d", l, b, told, again, err)
				}
			}
			if whole > 1 {
				t.Fatalf("weights %d: %d tells rows of %d lengths", l, b, whole)
			}
		}
	}
}

// rows calls f with all rows of up to so many of these symbols.
func rows(size int, of []byte, f func(symbols []byte)) {
	var grow func(symbols []byte)
	grow = func(symbols []byte) {
		f(symbols)
		if len(symbols) < size {
			for _, symbol := range of {
				grow(then(symbols, []byte{symbol}))
			}
		}
	}
	grow(nil)
}

// P9.4

func TestEachRowHasAStreamOfItsOwn(t *testing.T) {
	for _, l := range [][]byte{{1, 1}, {11, 0, 11}, {2, 1, 1}, {0, 1, 2, 1}, {3, 1, 2, 1}, {2, 2, 2, 2}} {
		rowOf := map[string][]byte{}
		rowOf4 := map[string][]byte{}
		rows(7, having(l), func(symbols []byte) {
			b := encodeInWords(l, symbols)
			wantBothWays(t, l, symbols, b)
			if other, is := rowOf[string(b)]; is {
				t.Fatalf("weights %d: %d and %d have the stream %d", l, other, symbols, b)
			}
			rowOf[string(b)] = symbols
			n := len(symbols)
			if _, fine := shares(n); !fine {
				encode4.wantErr(t, l, symbols)
				return
			}
			b = encode4InWords(l, symbols)
			wantBothWays4(t, l, symbols, b)
			if other, is := rowOf4[string(b)]; is && len(other) == n {
				t.Fatalf("weights %d: %d and %d have the streams %d", l, other, symbols, b)
			}
			rowOf4[string(b)] = symbols
		})
	}
}

func TestEachSymbolAlone(t *testing.T) {
	r := rand.New(rand.NewPCG(9, 1))
	all := mixed()
	for range 50 {
		all = append(all, someWeights(r))
	}
	for _, l := range all {
		codes := spelt(l)
		for symbol := range 256 {
			one := []byte{byte(symbol)}
			if symbol < len(l) && l[symbol] > 0 {
				wantBothWays(t, l, one, stream(codes[symbol]))
				continue
			}
			// It has no code, or is beyond the weights: alone, first, last, in between.
			fine := having(l)
			for _, symbols := range [][]byte{one, then(one, fine), then(fine, one), then(fine[:1], one, fine), then(each(100, fine[0]), one, fine)} {
				encode.wantErr(t, l, symbols)
				encode4.wantErr(t, l, symbols)
			}
		}
	}
}

func TestStreamsOfManyKinds(t *testing.T) {
	r := rand.New(rand.NewPCG(9, 2))
	for i := range 3000 {
		l := someWeights(r)
		n := r.IntN(300)
		if i%300 == 0 {
			n = r.IntN(maxBlock + 1)
		}
		symbols := someSymbols(r, l, n)
		wantBothWays(t, l, symbols, encodeInWords(l, symbols))
		if _, fine := shares(n); fine {
			wantBothWays4(t, l, symbols, encode4InWords(l, symbols))
		}
	}
	for _, l := range mixed() {
		for n := range 40 {
			symbols := someSymbols(r, l, n)
			wantBothWays(t, l, symbols, encodeInWords(l, symbols))
		}
	}
}

// spoil changes bytes, or how many symbols are asked for.
func spoil(r *rand.Rand, b []byte, n int) ([]byte, int) {
	b = slices.Clone(b)
	switch at := r.IntN(len(b)); r.IntN(6) {
	case 0:
		b[at] ^= 1 << r.IntN(8)
	case 1:
		b[len(b)-1] = byte(r.Uint32())
	case 2:
		b = b[:at]
	case 3:
		b = append(b, byte(r.Uint32()))
	case 4:
		b = slices.Delete(b, at, at+1)
	case 5:
		n += r.IntN(9) - 4
	}
	return b, n
}

func TestStreamsOfChance(t *testing.T) {
	r := rand.New(rand.NewPCG(9, 3))
	for range 20000 {
		l := someWeights(r)
		n := r.IntN(60)
		b := make([]byte, r.IntN(40))
		for i := range b {
			b[i] = byte(r.Uint32() >> r.IntN(8))
		}
		want, err := decodeInWords(l, b, n)
		decode.want(t, l, b, n, want, err)
		if len(b) >= 6 && r.IntN(4) > 0 {
			b[0], b[1], b[2], b[3], b[4], b[5] = b[0]%16, 0, b[2]%16, 0, b[4]%16, 0
		}
		want, err = decode4InWords(l, b, n)
		decode4.want(t, l, b, n, want, err)
	}
	for range 10000 {
		l := someWeights(r)
		symbols := someSymbols(r, l, 6+r.IntN(60))
		b, n := spoil(r, encodeInWords(l, symbols), len(symbols))
		want, err := decodeInWords(l, b, n)
		decode.want(t, l, b, n, want, err)
		b, n = spoil(r, encode4InWords(l, symbols), len(symbols))
		want, err = decode4InWords(l, b, n)
		decode4.want(t, l, b, n, want, err)
	}
}

func TestAnswersAreNewMemory(t *testing.T) {
	l, symbols := []byte{2, 1, 1}, []byte{0, 1, 2, 0}
	for _, ask := range []func() []byte{
		func() []byte { b, _ := huff.Encode(l, symbols); return b },
		func() []byte { b, _ := huff.Encode4(l, symbols); return b },
		func() []byte { told, _ := huff.Decode(l, stream("1", "00", "01", "1"), 4); return told },
		func() []byte { told, _ := huff.Decode4(l, []byte{1, 0, 1, 0, 1, 0, 3, 4, 5, 3}, 4); return told },
	} {
		one, other := ask(), ask()
		want := slices.Clone(other)
		clear(one)
		if len(want) == 0 || !bytes.Equal(other, want) || !bytes.Equal(ask(), want) {
			t.Errorf("%d became %d", want, other)
		}
	}
}

// P9.3

func TestEncodeOfHowManySymbols(t *testing.T) {
	for _, l := range mixed() {
		fine := having(l)
		last := fine[len(fine)-1]
		wantBothWays(t, l, nil, []byte{1})
		wantBothWays(t, l, []byte{}, []byte{1})
		wantBothWays(t, l, []byte{last}, stream(spelt(l)[last]))
		for _, n := range []int{maxBlock + 1, maxBlock + 2, maxBlock + 4, 2 * maxBlock} {
			encode.wantErr(t, l, each(n, last))
			encode4.wantErr(t, l, each(n, last))
		}
	}
	for _, l := range [][]byte{{1, 1}, falling()} {
		last := byte(len(l) - 1)
		symbols := then([]byte{last}, make([]byte, maxBlock-2), []byte{last})
		wantBothWays(t, l, symbols, encodeInWords(l, symbols))
		wantBothWays4(t, l, symbols, encode4InWords(l, symbols))
		// As many as may be, but one has no code.
		for _, at := range []int{0, 1, maxBlock / 2, maxBlock - 1} {
			spoilt := slices.Clone(symbols)
			spoilt[at] = last + 1
			encode.wantErr(t, l, spoilt)
			encode4.wantErr(t, l, spoilt)
		}
	}
}

// Each of four streams at its longest: 32768 codes of 11 bits. No symbols make longer ones, so none of the first three is ever above 65535 bytes; see join_test.go.
func TestEncode4OfTheLongestStreams(t *testing.T) {
	for _, n := range []int{maxBlock, maxBlock - 1, maxBlock - 3, maxBlock - 4} {
		symbols := each[byte](n, 11)
		b := encode4InWords(falling(), symbols)
		wantBothWays4(t, falling(), symbols, b)
		if size := 32768*11/8 + 1; n == maxBlock && (len(b) != 6+4*size || int(b[4])+256*int(b[5]) != size) {
			t.Errorf("%d bytes, and of the third stream %d %d", len(b), b[4], b[5])
		}
	}
}

// P9.2 and P9.3

func TestFourStreamsWrittenOut(t *testing.T) {
	for _, c := range []struct{ symbols, b []byte }{
		// 1, 00, 01; of 3 and of 6 symbols, and so on, the last stream has less, or nothing.
		{nil, []byte{1, 0, 1, 0, 1, 0, 1, 1, 1, 1}},
		{[]byte{0, 1, 2}, []byte{1, 0, 1, 0, 1, 0, 0b11, 0b100, 0b101, 1}},
		{[]byte{0, 1, 2, 0}, []byte{1, 0, 1, 0, 1, 0, 0b11, 0b100, 0b101, 0b11}},
		{[]byte{0, 1, 2, 0, 0, 0}, []byte{1, 0, 1, 0, 1, 0, 0b1100, 0b1011, 0b111, 1}},
		{[]byte{0, 1, 2, 0, 0, 0, 2}, []byte{1, 0, 1, 0, 1, 0, 0b1100, 0b1011, 0b111, 0b101}},
		{[]byte{0, 1, 2, 0, 0, 0, 2, 1}, []byte{1, 0, 1, 0, 1, 0, 0b1100, 0b1011, 0b111, 0b10100}},
		{[]byte{0, 1, 2, 0, 0, 0, 2, 1, 2}, []byte{1, 0, 1, 0, 1, 0, 0b110001, 0b1111, 0b1010001, 1}},
		// Streams of one byte, of two and of three.
		{then(each[byte](8, 0), each[byte](8, 1), each[byte](8, 2), each[byte](8, 0)), []byte{2, 0, 3, 0, 3, 0, 255, 1, 0, 0, 1, 0b01010101, 0b01010101, 1, 255, 1}},
	} {
		l := []byte{2, 1, 1}
		wantBothWays4(t, l, c.symbols, c.b)
		told, err := decode4InWords(l, c.b, len(c.symbols))
		if b := encode4InWords(l, c.symbols); !bytes.Equal(b, c.b) || !bytes.Equal(told, c.symbols) || err != api.OK {
			t.Errorf("%d in words: %d; %d, %d", c.symbols, b, told, err)
		}
	}
}

func TestFourStreamsOfFewSymbols(t *testing.T) {
	r := rand.New(rand.NewPCG(9, 4))
	for _, l := range mixed() {
		for n := range 40 {
			symbols := someSymbols(r, l, n)
			if n != 1 && n != 2 && n != 5 {
				wantBothWays4(t, l, symbols, encode4InWords(l, symbols))
				continue
			}
			// The first three would have 3 of 1 and of 2, and 6 of 5. Ahead of what the bytes are.
			encode4.wantErr(t, l, symbols)
			for _, b := range [][]byte{nil, {0}, {1, 0, 1, 0, 1}, {1, 0, 1, 0, 1, 0}, {9, 9, 9, 9, 9, 9}, {1, 0, 1, 0, 1, 0, 1, 1, 1, 1}, encode4InWords(l, someSymbols(r, l, 4))} {
				decode4.wantErr(t, l, b, n, api.ErrForm)
			}
		}
	}
}

func TestDecode4OfHowManySymbols(t *testing.T) {
	for _, n := range []int{math.MinInt, -maxBlock, -5, -4, -3, -2, -1, maxBlock + 1, maxBlock + 2, 2 * maxBlock, math.MaxInt} {
		for _, b := range [][]byte{nil, {1, 0, 1}, {1, 0, 1, 0, 1, 0, 1, 1, 1, 1}} {
			decode4.wantErr(t, []byte{1, 1}, b, n, api.ErrArg)
		}
	}
}

func TestDecode4OfFewBytes(t *testing.T) {
	whole := []byte{1, 0, 1, 0, 1, 0, 3, 4, 5, 3}
	for _, n := range []int{0, 3, 4, 6, 100, maxBlock} {
		for size := range 9 {
			decode4.wantErr(t, []byte{2, 1, 1}, whole[:size], n, api.ErrShort)
		}
		for size := range 6 {
			decode4.wantErr(t, []byte{2, 1, 1}, make([]byte, size), n, api.ErrShort)
			decode4.wantErr(t, []byte{2, 1, 1}, each[byte](size, 255), n, api.ErrShort)
		}
		// Six, and all streams without bytes; and one that asks for a byte.
		decode4.wantErr(t, []byte{2, 1, 1}, make([]byte, 6), n, api.ErrForm)
		for at := range 6 {
			b := make([]byte, 6)
			b[at] = 1
			decode4.wantErr(t, []byte{2, 1, 1}, b, n, api.ErrShort)
		}
	}
	// Without the last stream's byte there are nine: those that the first three ask for.
	decode4.wantErr(t, []byte{2, 1, 1}, whole[:9], 4, api.ErrForm)
	decode4.wantErr(t, []byte{2, 1, 1}, whole[:9], 3, api.ErrForm)
}

func TestDecode4OfNumbersThatAskForAll(t *testing.T) {
	l := []byte{2, 1, 1}
	parts := parts4(l, []byte{0, 1, 2, 0, 0, 1, 2, 0})
	good := join4(parts)
	for i := range 3 {
		// A stream's number takes in all that the last one has.
		all := slices.Clone(good)
		all[2*i] += byte(len(parts[3]))
		want, err := decode4InWords(l, all, 8)
		decode4.want(t, l, all, 8, want, err)
		if err == api.OK || err == api.ErrShort {
			t.Errorf("%d in words: %d", all, err)
		}
		// And one more, though the first stream is none.
		all[2*i]++
		decode4.wantErr(t, l, all, 8, api.ErrShort)
		all[6] = 0
		decode4.wantErr(t, l, all, 8, api.ErrShort)
		// By 256 and by 65535 more.
		much := slices.Clone(good)
		much[2*i+1] = 1
		decode4.wantErr(t, l, much, 8, api.ErrShort)
		much[2*i], much[2*i+1] = 255, 255
		decode4.wantErr(t, l, much, 8, api.ErrShort)
	}
	// All that is there goes to the first three, whole; the last one is without bytes.
	bare := join4([4][]byte{parts[0], parts[1], parts[2], nil})
	decode4.wantErr(t, l, bare, 8, api.ErrForm)
	decode4.wantErr(t, l, bare, 6, api.ErrForm)
	decode4.want(t, l, then(bare, []byte{1}), 6, []byte{0, 1, 2, 0, 0, 1}, api.OK)
}

// faults are what may be wrong in a stream of symbols, and what is told of it.
func faults(b []byte) map[api.Errno][][]byte {
	return map[api.Errno][][]byte{
		api.ErrForm: {nil, {0}, {1}, then(b, []byte{0}), then(b[:len(b)-1], []byte{0})},
		api.ErrLeft: {then(b, []byte{1}), then(b, []byte{255}), then([]byte{0}, b), then(b, b)},
	}
}

func TestDecode4OfFaultsInStreams(t *testing.T) {
	r := rand.New(rand.NewPCG(9, 5))
	for _, l := range [][]byte{{1, 1}, {2, 1, 1}, falling(), each[byte](256, 1)} {
		for _, n := range []int{4, 7, 8, 30} {
			good := parts4(l, someSymbols(r, l, n))
			for i := range good {
				for err, bad := range faults(good[i]) {
					for _, b := range bad {
						parts := good
						parts[i] = b
						decode4.wantErr(t, l, join4(parts), n, err)
						wantFirstFault(t, l, parts, i, n, err)
					}
				}
			}
		}
	}
}

// wantFirstFault fails, unless the fault of a stream is told, whatever is wrong in those behind it.
func wantFirstFault(t *testing.T, l []byte, parts [4][]byte, at, n int, err api.Errno) {
	t.Helper()
	for other := at + 1; other < len(parts); other++ {
		for _, bad := range faults(parts[other]) {
			for _, b := range bad {
				both := parts
				both[other] = b
				decode4.wantErr(t, l, join4(both), n, err)
			}
		}
	}
}

func TestDecode4OfAByteMore(t *testing.T) {
	r := rand.New(rand.NewPCG(9, 6))
	for _, l := range mixed() {
		for _, n := range []int{0, 3, 4, 9, 50} {
			b := encode4InWords(l, someSymbols(r, l, n))
			decode4.wantErr(t, l, then(b, []byte{0}), n, api.ErrForm)
			for c := 1; c < 256; c++ {
				decode4.wantErr(t, l, then(b, []byte{byte(c)}), n, api.ErrLeft)
			}
		}
	}
}

func TestDecode4OfLongStreams(t *testing.T) {
	l := []byte{1, 1}
	good := parts4(l, make([]byte, maxBlock))
	decode4.want(t, l, join4(good), maxBlock, make([]byte, maxBlock), api.OK)
	for i := range good {
		for _, size := range []int{65535, 65536, 65537, 200000} {
			if i < 3 && size > 65535 {
				continue
			}
			parts := good
			parts[i] = each[byte](size, 1)
			decode4.wantErr(t, l, join4(parts), maxBlock, api.ErrLeft)
			parts[i][size-1] = 0
			decode4.wantErr(t, l, join4(parts), maxBlock, api.ErrForm)
			if i < 3 {
				b := join4(parts)
				decode4.wantErr(t, l, b[:6+len(parts[0])+len(parts[1])+len(parts[2])-1], maxBlock, api.ErrShort)
			}
		}
	}
}
