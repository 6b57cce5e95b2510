package xxh_test

import (
	"bytes"
	"fmt"
	"strings"
	"testing"

	"lighterman/xxh"
)

const ofNothing uint64 = 17241709254077376921

func Example() {
	h := xxh.New()
	h.Write([]byte("a"))
	h.Write([]byte("bc"))
	fmt.Printf("%x\n", h.Sum())
	fmt.Println(h.Sum() == xxh.Of([]byte("abc")))
	// Output:
	// 44bc2cf5ad770999
	// true
}

// wantSum fails, unless the sum is this one.
func wantSum(t *testing.T, what string, got, want uint64) {
	t.Helper()
	if got != want {
		t.Errorf("%s: %016x, want %016x", what, got, want)
	}
}

// unlike are n bytes of which neighbours, and neighbouring stripes, are unlike.
func unlike(n int) []byte {
	b := make([]byte, n)
	for i := range b {
		b[i] = byte(i*i*7 + i*131 + (i>>8)*17 + 5)
	}
	return b
}

// P3.1

func TestOfNothing(t *testing.T) {
	wantSum(t, "Of of nil", xxh.Of(nil), ofNothing)
	wantSum(t, "Of of an empty list", xxh.Of([]byte{}), ofNothing)
}

func TestOfTexts(t *testing.T) {
	for _, c := range []struct {
		text string
		want uint64
	}{
		{"a", 0xd24ec4f1a98c6e5b},
		{"abc", 0x44bc2cf5ad770999},
		{"123456789", 0x8cb841db40e6ae83},
		{"message digest", 0x066ed728fceeb3be},
		{"abcdefghijklmnopqrstuvwxyz", 0xcfe1f278fa89835c},
		{"Nobody inspects the spammish repetition", 0xfbcea83c8a378bf1},
		{strings.Repeat("1234567890", 8), 0xe04a477f19ee145d},
		{strings.Repeat("a", 1000000), 0xdc483aaa9b4fdc40},
	} {
		wantSum(t, fmt.Sprintf("Of of %.60q", c.text), xxh.Of([]byte(c.text)), c.want)
	}
}

// Bytes are left in eights, in a four, and one by one, alone and behind stripes.
func TestOfLengthsAboutTheEndsOfTheirParts(t *testing.T) {
	for _, c := range []struct {
		n    int
		want uint64
	}{
		{1, 0x50ff15a81340970f},
		{2, 0xce849a6252f03bdc},
		{3, 0x0c4bdbe9b86f6a2f},
		{4, 0x3a4d5c117e468095},
		{5, 0xc9d685c85abe8cf2},
		{7, 0x8b9c2cefeeb810f8},
		{8, 0x5b252894cdd69577},
		{9, 0x97abdb3233802eab},
		{11, 0x561916a04e83b9c3},
		{12, 0xff85cc380537d69a},
		{13, 0x3757ecbcc2277107},
		{15, 0xf55e9b1acaaf2dc4},
		{16, 0x86fd883c9aa33552},
		{17, 0xa64482d3f56071c3},
		{23, 0x2061aecd26e0a474},
		{24, 0x77940b8ce4c76bc2},
		{25, 0xa2dcafcab533f39a},
		{28, 0x71f00528ee54a6d8},
		{31, 0x895e98fb59a41edb},
		{32, 0xa88acaec4537fc0c},
		{33, 0x6e8a24653fc2ea1c},
		{35, 0x3f16a425e42ce419},
		{36, 0xbebffe4cbb489819},
		{37, 0x5d437477be0d1fcb},
		{39, 0xbe329138da9a8c21},
		{40, 0x8b43b4383ac9e2bf},
		{41, 0x79cc3ad83bdea209},
		{44, 0x142f2a12bc40b548},
		{47, 0x1a645bb82129bd46},
		{48, 0xcb0e2c251a493653},
		{56, 0x6f8a23fe08910a54},
		{60, 0xc3355790c03c9c0b},
		{63, 0xfafb5dea977bb0e7},
		{64, 0xd8fc228457c9eef7},
		{65, 0x80631e577bc61acb},
		{68, 0x6cbd370dd3376444},
		{72, 0xe592e7e2556e55c6},
		{95, 0xe3f10db21ed4e904},
		{96, 0x9acb8cec19f8d3d7},
		{97, 0x7f3968643a7720ad},
		{127, 0x32019426737132eb},
		{128, 0x66546b58cefa57af},
		{129, 0xb968625abfc2b224},
	} {
		wantSum(t, fmt.Sprintf("Of of %d bytes", c.n), xxh.Of(unlike(c.n)), c.want)
	}
}

// How many bytes there are goes into the sum, however many bytes that number has.
func TestOfManyBytes(t *testing.T) {
	for _, c := range []struct {
		n    int
		want uint64
	}{
		{255, 0x845ee2a2455f8ca6},
		{256, 0xde1054dc5560644e},
		{257, 0xdc73851aef52b52d},
		{1000, 0xa474fbed9bd14fc6},
		{8191, 0x25dc508f824be39f},
		{8192, 0x602a019214203776},
		{65535, 0x03d32d98876b3a02},
		{65536, 0x07ee6d8b69284cf8},
		{65537, 0x8e52e0c500672fd3},
		{1 << 24, 0x8c441cf9a5fd9cbd},
	} {
		wantSum(t, fmt.Sprintf("Of of %d bytes", c.n), xxh.Of(unlike(c.n)), c.want)
	}
}

// Noughts tell only by how many they are, and bytes from 128 on have no sign.
func TestOfBytesThatAreAllAlike(t *testing.T) {
	for _, c := range []struct {
		value byte
		n     int
		want  uint64
	}{
		{0, 1, 0xe934a84adb052768},
		{0, 4, 0x3aefa6fd5cf2deb4},
		{0, 8, 0x34c96acdcadb1bbb},
		{0, 31, 0xfaf43dd52deb083a},
		{0, 32, 0xf6e9be5d70632cf5},
		{0, 63, 0xd81772f2c42d7324},
		{0, 64, 0x257b09a147b82a19},
		{0, 100, 0x17bb1103c92c502f},
		{128, 1, 0x841226287060849f},
		{128, 4, 0xfe0adb5140712431},
		{128, 8, 0xdbf254433c43157d},
		{128, 31, 0xd1de043e305a2e46},
		{128, 32, 0x513da1a773a21377},
		{128, 63, 0x3da8d4d28649587f},
		{128, 64, 0xf4d7430a96570746},
		{128, 100, 0x9e8195e21bf73e5a},
		{255, 1, 0x95634172a60b7544},
		{255, 4, 0x7f78e4bda3addf93},
		{255, 8, 0x85d136adb773c6c9},
		{255, 31, 0x5fbff749e15d5844},
		{255, 32, 0xff10223616c08787},
		{255, 63, 0xe8e09aa17c7e47d6},
		{255, 64, 0x2e54fae2959dbb84},
		{255, 100, 0x0ccc4cc1d8869491},
	} {
		got := xxh.Of(bytes.Repeat([]byte{c.value}, c.n))
		wantSum(t, fmt.Sprintf("Of of %d times %d", c.n, c.value), got, c.want)
	}
}

// One sum tells of all lengths below 300: that of all their sums, the lowest byte first.
func TestOfEachLength(t *testing.T) {
	var sums []byte
	for n := range 300 {
		x := xxh.Of(unlike(n))
		for i := range 8 {
			sums = append(sums, byte(x>>(8*i)))
		}
	}
	wantSum(t, "Of of the sums", xxh.Of(sums), 0xd99a8a08aa70ea5f)
}

func TestOfChangesNothing(t *testing.T) {
	for _, n := range []int{0, 1, 4, 8, 31, 32, 33, 64, 100} {
		b := bytes.Repeat([]byte{9}, n+200)
		xxh.Of(b[:n])
		h := xxh.New()
		h.Write(b[:n])
		h.Sum()
		if !bytes.Equal(b, bytes.Repeat([]byte{9}, n+200)) {
			t.Errorf("%d bytes, or what stands behind them, were changed", n)
		}
	}
}

func TestOfIsTheSameAgain(t *testing.T) {
	b := unlike(150)
	first := xxh.Of(b)
	xxh.Of(unlike(77))
	wantSum(t, "Of, asked again", xxh.Of(b), first)
}

// P3.2

func TestNewHasNoBytes(t *testing.T) {
	h := xxh.New()
	wantSum(t, "New", h.Sum(), ofNothing)
	wantSum(t, "New, asked again", h.Sum(), ofNothing)
}

// The document has all Hashes from New; one that isn't has no bytes either.
func TestHashThatIsNotFromNew(t *testing.T) {
	for _, n := range []int{0, 1, 31, 32, 100} {
		var h xxh.Hash
		h.Write(unlike(n))
		wantSum(t, fmt.Sprintf("behind %d bytes", n), h.Sum(), xxh.Of(unlike(n)))
	}
}

func TestWriteAppends(t *testing.T) {
	b := unlike(200)
	h := xxh.New()
	h.Write(b[:10])
	wantSum(t, "behind 10 bytes", h.Sum(), xxh.Of(b[:10]))
	h.Write(b[10:32])
	wantSum(t, "behind 32 bytes", h.Sum(), xxh.Of(b[:32]))
	h.Write(b[32:])
	wantSum(t, "behind 200 bytes", h.Sum(), xxh.Of(b))
}

func TestWriteOfNothing(t *testing.T) {
	b := unlike(70)
	for n := range b {
		h := xxh.New()
		h.Write(nil)
		h.Write(b[:n])
		h.Write([]byte{})
		h.Write(nil)
		wantSum(t, fmt.Sprintf("nothing written about %d bytes", n), h.Sum(), xxh.Of(b[:n]))
	}
}

func TestSumChangesNothing(t *testing.T) {
	b := unlike(150)
	for n := range 100 {
		h := xxh.New()
		h.Write(b[:n])
		want := xxh.Of(b[:n])
		if h.Sum() != want || h.Sum() != want {
			t.Errorf("Sum behind %d bytes", n)
		}
		h.Write(b[n:])
		wantSum(t, fmt.Sprintf("Sum between two Writes, behind %d bytes", n), h.Sum(), xxh.Of(b))
	}
}

func TestHashKeepsNoArgument(t *testing.T) {
	for _, n := range []int{5, 32, 70} {
		b := unlike(n)
		h := xxh.New()
		h.Write(b)
		clear(b)
		wantSum(t, fmt.Sprintf("%d bytes that were changed behind Write", n), h.Sum(), xxh.Of(unlike(n)))
	}
}

func TestHashesKeepApart(t *testing.T) {
	one, other := xxh.New(), xxh.New()
	one.Write(unlike(100))
	wantSum(t, "the other one", other.Sum(), ofNothing)
	other.Write([]byte("abc"))
	wantSum(t, "one", one.Sum(), xxh.Of(unlike(100)))
	wantSum(t, "the other one, written to", other.Sum(), xxh.Of([]byte("abc")))
	wantSum(t, "a new one", xxh.New().Sum(), ofNothing)
}

func TestNilHash(t *testing.T) {
	var h *xxh.Hash
	wantSum(t, "of nil", h.Sum(), ofNothing)
	h.Write(unlike(100))
	h.Write(nil)
	wantSum(t, "of nil, behind Write", h.Sum(), ofNothing)
}

// P3.3

// inPieces is the sum of bytes cut into pieces of these sizes by turns.
func inPieces(b []byte, sizes ...int) uint64 {
	h := xxh.New()
	for i := 0; len(b) > 0; i++ {
		n := min(sizes[i%len(sizes)], len(b))
		h.Write(b[:n])
		b = b[n:]
	}
	return h.Sum()
}

func TestPiecesOfOneSize(t *testing.T) {
	b := unlike(1001)
	want := xxh.Of(b)
	for n := 1; n <= len(b); n++ {
		wantSum(t, fmt.Sprintf("pieces of %d bytes", n), inPieces(b, n), want)
	}
}

func TestPiecesOfManySizes(t *testing.T) {
	b := unlike(5003)
	want := xxh.Of(b)
	for _, sizes := range [][]int{
		{1, 31}, {31, 1}, {32, 0, 32}, {33, 31}, {1, 32}, {64, 1, 0, 63}, {31, 2, 31},
		{1, 2, 3, 5, 8, 13, 21, 34, 55, 89, 144, 233}, {28, 4}, {24, 8}, {96, 7}, {4096, 32},
	} {
		wantSum(t, fmt.Sprintf("pieces of %v bytes by turns", sizes), inPieces(b, sizes...), want)
	}
}

func TestThreePieces(t *testing.T) {
	b := unlike(111)
	want := xxh.Of(b)
	for j := range len(b) + 1 {
		for i := range j + 1 {
			h := xxh.New()
			h.Write(b[:i])
			h.Write(b[i:j])
			h.Write(b[j:])
			if h.Sum() != want {
				t.Fatalf("cut at %d and %d", i, j)
			}
		}
	}
}

func TestSumBehindEachByte(t *testing.T) {
	b := unlike(260)
	h := xxh.New()
	for i := range b {
		h.Write(b[i : i+1])
		if h.Sum() != xxh.Of(b[:i+1]) {
			t.Fatalf("behind %d bytes, one by one", i+1)
		}
	}
}
