package crc_test

import (
	"bytes"
	"fmt"
	"strings"
	"testing"

	"lighterman/crc"
)

func Example() {
	h := crc.New()
	h.Write([]byte("1234"))
	h.Write([]byte("56789"))
	fmt.Println(h.Sum())
	fmt.Println(h.Sum() == crc.Of([]byte("123456789")))
	// Output:
	// 3808858755
	// true
}

// wantSum fails, unless the sum is this one.
func wantSum(t *testing.T, what string, got, want uint32) {
	t.Helper()
	if got != want {
		t.Errorf("%s: %08x, want %08x", what, got, want)
	}
}

// unlike are n bytes of which neighbours are unlike.
func unlike(n int) []byte {
	b := make([]byte, n)
	for i := range b {
		b[i] = byte(i*i*7 + i*131 + (i>>8)*17 + 5)
	}
	return b
}

// oneBit are n bytes, noughts but for the bit of this place.
func oneBit(n, place int) []byte {
	b := make([]byte, n)
	b[place/8] = 1 << (place % 8)
	return b
}

// byBits is the sum of bytes as the promise tells it, bit by bit.
func byBits(b []byte) uint32 {
	var x uint32 = 1<<32 - 1
	for _, c := range b {
		x ^= uint32(c)
		for range 8 {
			odd := x%2 == 1
			x /= 2
			if odd {
				x ^= 2197175160
			}
		}
	}
	return x ^ (1<<32 - 1)
}

// laid are sums one behind the other, the lowest byte first.
func laid(sums []uint32) []byte {
	var b []byte
	for _, x := range sums {
		for i := range 4 {
			b = append(b, byte(x>>(8*i)))
		}
	}
	return b
}

// P4.1

func TestOfNothing(t *testing.T) {
	wantSum(t, "Of of nil", crc.Of(nil), 0)
	wantSum(t, "Of of an empty list", crc.Of([]byte{}), 0)
}

func TestOfTexts(t *testing.T) {
	for _, c := range []struct {
		text string
		want uint32
	}{
		{"123456789", 3808858755},
		{"a", 0xc1d04330},
		{"abc", 0x364b3fb7},
		{"message digest", 0x02bd79d0},
		{"abcdefghijklmnopqrstuvwxyz", 0x9ee6ef25},
		{"The quick brown fox jumps over the lazy dog", 0x22620404},
		{strings.Repeat("1234567890", 8), 0x477a6781},
		{strings.Repeat("a", 1000000), 0x436fe240},
	} {
		wantSum(t, fmt.Sprintf("Of of %.60q", c.text), crc.Of([]byte(c.text)), c.want)
	}
}

// Those that RFC 3720 gives for CRC-32C, in B.4.
func TestOfWhatIsGivenForISCSI(t *testing.T) {
	up, down := make([]byte, 32), make([]byte, 32)
	for i := range 32 {
		up[i], down[31-i] = byte(i), byte(i)
	}
	wantSum(t, "Of of 32 noughts", crc.Of(make([]byte, 32)), 0x8a9136aa)
	wantSum(t, "Of of 32 times 255", crc.Of(bytes.Repeat([]byte{255}, 32)), 0x62a8ab43)
	wantSum(t, "Of of 0 to 31", crc.Of(up), 0x46dd794e)
	wantSum(t, "Of of 31 to 0", crc.Of(down), 0x113fdb5c)
	read := make([]byte, 48)
	for _, c := range []struct {
		place int
		value byte
	}{
		{0, 0x01}, {1, 0xc0}, {16, 0x14}, {22, 0x04}, {27, 0x14}, {31, 0x18}, {32, 0x28}, {40, 0x02},
	} {
		read[c.place] = c.value
	}
	wantSum(t, "Of of a read command", crc.Of(read), 0xd9963a56)
}

func TestOfOneByteOfEachValue(t *testing.T) {
	var sums []uint32
	for v := range 256 {
		b := []byte{byte(v)}
		sums = append(sums, crc.Of(b))
		wantSum(t, fmt.Sprintf("Of of %d", v), crc.Of(b), byBits(b))
	}
	wantSum(t, "Of of the sums", crc.Of(laid(sums)), 0x00cd4764)
	for _, c := range []struct {
		value int
		want  uint32
	}{
		{0, 0x527d5351}, {1, 0xa016d052}, {2, 0xb34623a6}, {4, 0x95e7c44e}, {8, 0xd8a40b9e},
		{15, 0x0c6e6f75}, {16, 0x4223943e}, {17, 0xb048173d}, {32, 0x72c0dd8f}, {64, 0x13064eed},
		{127, 0x7df63b78}, {128, 0xd08b6829}, {240, 0xa1133c24}, {254, 0x0d6b8303}, {255, 0xff000000},
	} {
		wantSum(t, fmt.Sprintf("Of of %d", c.value), sums[c.value], c.want)
	}
}

func TestOfOneBitAmongNoughts(t *testing.T) {
	var sums []uint32
	for _, n := range []int{1, 4, 5, 16} {
		for place := range 8 * n {
			b := oneBit(n, place)
			sums = append(sums, crc.Of(b))
			wantSum(t, fmt.Sprintf("Of of %d bytes, bit %d set", n, place), crc.Of(b), byBits(b))
		}
	}
	wantSum(t, "Of of the sums", crc.Of(laid(sums)), 0xbf2af3f0)
	wantSum(t, "Of of 8 bytes, the first bit set", crc.Of(oneBit(8, 0)), 0xc514cfad)
	wantSum(t, "Of of 8 bytes, the last bit set", crc.Of(oneBit(8, 63)), 0x0ede89f2)
}

// Each bit tells, wherever it stands: no two of these have one sum.
func TestOfTellsOfEachBit(t *testing.T) {
	const n = 1500
	from := map[uint32]int{crc.Of(make([]byte, n)): -1}
	for place := range 8 * n {
		x := crc.Of(oneBit(n, place))
		if other, ok := from[x]; ok {
			t.Fatalf("bits %d and %d, set among %d noughts, have one sum", other, place, n)
		}
		from[x] = place
	}
}

func TestOfLengths(t *testing.T) {
	for _, c := range []struct {
		n    int
		want uint32
	}{
		{1, 0x678c474d},
		{2, 0x70ac8925},
		{3, 0xb3368f2f},
		{4, 0x50c5bd33},
		{5, 0x010394d2},
		{7, 0x70f9ba4d},
		{8, 0xad5b17f2},
		{9, 0x2c7ebabc},
		{16, 0x4b54f2bd},
		{31, 0x99a901d6},
		{32, 0xff99a901},
		{33, 0xf4dece85},
		{64, 0xdb91ffa0},
		{129, 0x6c5bdd96},
	} {
		wantSum(t, fmt.Sprintf("Of of %d bytes", c.n), crc.Of(unlike(c.n)), c.want)
	}
}

func TestOfManyBytes(t *testing.T) {
	for _, c := range []struct {
		n    int
		want uint32
	}{
		{255, 0x1d59a77d},
		{256, 0x6694f29c},
		{257, 0xbb0fd4e3},
		{1000, 0x3320af89},
		{8191, 0xc1d1917c},
		{8192, 0x7616bdc5},
		{65535, 0x752c4266},
		{65536, 0xee2e075b},
		{65537, 0xafce18a2},
		{1 << 24, 0xd083f4a8},
	} {
		wantSum(t, fmt.Sprintf("Of of %d bytes", c.n), crc.Of(unlike(c.n)), c.want)
	}
}

// One sum tells of all lengths below 300: that of all their sums.
func TestOfEachLength(t *testing.T) {
	var sums []uint32
	for n := range 300 {
		b := unlike(n)
		sums = append(sums, crc.Of(b))
		wantSum(t, fmt.Sprintf("Of of %d bytes", n), crc.Of(b), byBits(b))
	}
	wantSum(t, "Of of the sums", crc.Of(laid(sums)), 0x22879126)
}

// Noughts tell by how many they are, and bytes from 128 on have no sign.
func TestOfBytesThatAreAllAlike(t *testing.T) {
	for _, c := range []struct {
		value byte
		n     int
		want  uint32
	}{
		{0, 1, 0x527d5351},
		{0, 2, 0xf16177d2},
		{0, 4, 0x48674bc7},
		{0, 5, 0x45727635},
		{0, 100, 0x07cb9ff6},
		{0, 65536, 0x72c0c4a4},
		{15, 4, 0x52e8fc9e},
		{15, 100, 0x2e5402af},
		{128, 4, 0xe8d5343a},
		{128, 100, 0xb6223200},
		{128, 65536, 0xb2a54172},
		{255, 1, 0xff000000},
		{255, 2, 0xffff0000},
		{255, 3, 0xffffff00},
		{255, 4, 0xffffffff},
		{255, 5, 0x5282acae},
		{255, 100, 0xbc753add},
		{255, 65536, 0x545a7f44},
	} {
		got := crc.Of(bytes.Repeat([]byte{c.value}, c.n))
		wantSum(t, fmt.Sprintf("Of of %d times %d", c.n, c.value), got, c.want)
	}
}

func TestOfChangesNothing(t *testing.T) {
	for _, n := range []int{0, 1, 4, 100} {
		b := bytes.Repeat([]byte{9}, n+50)
		crc.Of(b[:n])
		h := crc.New()
		h.Write(b[:n])
		h.Sum()
		if !bytes.Equal(b, bytes.Repeat([]byte{9}, n+50)) {
			t.Errorf("%d bytes, or what stands behind them, were changed", n)
		}
	}
}

func TestOfIsTheSameAgain(t *testing.T) {
	b := unlike(150)
	first := crc.Of(b)
	crc.Of(unlike(77))
	wantSum(t, "Of, asked again", crc.Of(b), first)
}

// P4.2

func TestNewHasNoBytes(t *testing.T) {
	h := crc.New()
	wantSum(t, "New", h.Sum(), 0)
	wantSum(t, "New, asked again", h.Sum(), 0)
}

// The document has all Hashes from New; one that isn't has no bytes either.
func TestHashThatIsNotFromNew(t *testing.T) {
	for _, n := range []int{0, 1, 4, 100} {
		var h crc.Hash
		h.Write(unlike(n))
		wantSum(t, fmt.Sprintf("behind %d bytes", n), h.Sum(), crc.Of(unlike(n)))
	}
}

func TestWriteAppends(t *testing.T) {
	b := unlike(200)
	h := crc.New()
	h.Write(b[:1])
	wantSum(t, "behind 1 byte", h.Sum(), 0x678c474d)
	h.Write(b[1:32])
	wantSum(t, "behind 32 bytes", h.Sum(), 0xff99a901)
	h.Write(b[32:129])
	wantSum(t, "behind 129 bytes", h.Sum(), 0x6c5bdd96)
	h.Write(b[129:])
	wantSum(t, "behind 200 bytes", h.Sum(), crc.Of(b))
}

func TestWriteOfNothing(t *testing.T) {
	b := unlike(70)
	for n := range b {
		h := crc.New()
		h.Write(nil)
		h.Write(b[:n])
		h.Write([]byte{})
		h.Write(nil)
		wantSum(t, fmt.Sprintf("nothing written about %d bytes", n), h.Sum(), crc.Of(b[:n]))
	}
}

// A sum so far of 0 is no sign that there are no bytes, and one of all ones
// none that there is nothing to go on from.
func TestWriteBehindSumsThatAreAsOfNothing(t *testing.T) {
	for _, c := range []struct {
		first []byte
		sum   uint32
	}{
		{[]byte{171, 155, 224, 155}, 0},
		{[]byte{90, 237, 12, 158}, 1},
		{[]byte{213, 77, 240, 77}, 1 << 31},
		{[]byte{255, 255, 255, 255}, 1<<32 - 1},
		{[]byte{255, 255, 255, 255, 0, 0, 0}, 1<<32 - 1},
	} {
		for _, next := range [][]byte{{}, {0}, {255}, unlike(9), c.first} {
			h := crc.New()
			h.Write(c.first)
			wantSum(t, fmt.Sprintf("behind %v", c.first), h.Sum(), c.sum)
			h.Write(next)
			want := byBits(append(bytes.Clone(c.first), next...))
			wantSum(t, fmt.Sprintf("behind %v and %v", c.first, next), h.Sum(), want)
		}
	}
}

func TestSumChangesNothing(t *testing.T) {
	b := unlike(150)
	for n := range b {
		h := crc.New()
		h.Write(b[:n])
		want := crc.Of(b[:n])
		if h.Sum() != want || h.Sum() != want {
			t.Errorf("Sum behind %d bytes", n)
		}
		h.Write(b[n:])
		wantSum(t, fmt.Sprintf("Sum between two Writes, behind %d bytes", n), h.Sum(), crc.Of(b))
	}
}

func TestHashKeepsNoArgument(t *testing.T) {
	for _, n := range []int{1, 4, 70} {
		b := unlike(n)
		h := crc.New()
		h.Write(b)
		clear(b)
		wantSum(t, fmt.Sprintf("%d bytes that were changed behind Write", n), h.Sum(), crc.Of(unlike(n)))
	}
}

func TestHashesKeepApart(t *testing.T) {
	one, other := crc.New(), crc.New()
	one.Write(unlike(100))
	wantSum(t, "the other one", other.Sum(), 0)
	other.Write([]byte("abc"))
	wantSum(t, "one", one.Sum(), crc.Of(unlike(100)))
	wantSum(t, "the other one, written to", other.Sum(), 0x364b3fb7)
	wantSum(t, "a new one", crc.New().Sum(), 0)
}

func TestNilHash(t *testing.T) {
	var h *crc.Hash
	wantSum(t, "of nil", h.Sum(), 0)
	h.Write(unlike(100))
	h.Write(nil)
	wantSum(t, "of nil, behind Write", h.Sum(), 0)
}

// P4.3

// inPieces is the sum of bytes cut into pieces of these sizes by turns.
func inPieces(b []byte, sizes ...int) uint32 {
	h := crc.New()
	for i := 0; len(b) > 0; i++ {
		n := min(sizes[i%len(sizes)], len(b))
		h.Write(b[:n])
		b = b[n:]
	}
	return h.Sum()
}

func TestPiecesOfOneSize(t *testing.T) {
	b := unlike(1001)
	want := byBits(b)
	for n := 1; n <= len(b); n++ {
		wantSum(t, fmt.Sprintf("pieces of %d bytes", n), inPieces(b, n), want)
	}
}

func TestPiecesOfManySizes(t *testing.T) {
	b := unlike(5003)
	want := byBits(b)
	for _, sizes := range [][]int{
		{1, 3}, {3, 1}, {4, 0, 4}, {1, 2, 3, 4, 5, 6, 7, 8}, {8, 1}, {16, 15, 17}, {64, 1, 0, 63},
		{1, 2, 3, 5, 8, 13, 21, 34, 55, 89, 144, 233}, {4096, 1}, {0, 0, 5}, {5002, 1},
	} {
		wantSum(t, fmt.Sprintf("pieces of %v bytes by turns", sizes), inPieces(b, sizes...), want)
	}
}

func TestThreePieces(t *testing.T) {
	b := unlike(111)
	want := byBits(b)
	for j := range len(b) + 1 {
		for i := range j + 1 {
			h := crc.New()
			h.Write(b[:i])
			h.Write(b[i:j])
			h.Write(b[j:])
			if h.Sum() != want {
				t.Fatalf("cut at %d and %d", i, j)
			}
		}
	}
}

func TestSumBehindEachByte(t *testing.T) {
	b := unlike(260)
	h := crc.New()
	for i := range b {
		h.Write(b[i : i+1])
		if h.Sum() != byBits(b[:i+1]) {
			t.Fatalf("behind %d bytes, one by one", i+1)
		}
	}
}
