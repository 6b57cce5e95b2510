package sha_test

import (
	"bytes"
	"encoding/hex"
	"fmt"
	"strings"
	"testing"

	"lighterman/api"
	"lighterman/sha"
)

const ofNothing = "e3b0c44298fc1c149afbf4c8996fb92427ae41e4649b934ca495991b7852b855"

func Example() {
	h := sha.New()
	h.Write([]byte("a"))
	h.Write([]byte("bc"))
	fmt.Printf("%x\n", h.Sum())
	fmt.Println(h.Sum() == sha.Of([]byte("abc")))
	// Output:
	// ba7816bf8f01cfea414140de5dae2223b00361a396177a9cb410ff61f20015ad
	// true
}

// wantSum fails, unless the digest is this one, by 16.
func wantSum(t *testing.T, what string, got api.Sum, want string) {
	t.Helper()
	if hex.EncodeToString(got[:]) != want {
		t.Errorf("%s: %x, want %s", what, got, want)
	}
}

// unlike are n bytes of which neighbours, and neighbouring blocks, are unlike.
func unlike(n int) []byte {
	b := make([]byte, n)
	for i := range b {
		b[i] = byte(i*i*7 + i*131 + (i>>8)*17 + 5)
	}
	return b
}

// P2.1

func TestOfTexts(t *testing.T) {
	for _, c := range []struct{ text, want string }{
		{"", ofNothing},
		{"a", "ca978112ca1bbdcafac231b39a23dc4da786eff8147c4e72b9807785afee48bb"},
		{"abc", "ba7816bf8f01cfea414140de5dae2223b00361a396177a9cb410ff61f20015ad"},
		{"message digest", "f7846f55cf23e14eebeab5b4e1550cad5b509e3348fbc4efa3a1413d393cb650"},
		{
			"abcdbcdecdefdefgefghfghighijhijkijkljklmklmnlmnomnopnopq",
			"248d6a61d20638b8e5c026930c3e6039a33ce45964ff2167f6ecedd419db06c1",
		},
		{
			"abcdefghbcdefghicdefghijdefghijkefghijklfghijklmghijklmnhijklmnoijklmnopjklmnopqklmnopqrlmnopqrsmnopqrstnopqrstu",
			"cf5b16a778af8380036ce59e7b0492370b249b11e8f07a51afac45037afee9d1",
		},
		{strings.Repeat("a", 1000000), "cdc76e5c9914fb9281a1c7e284d73e67f1809a48a497200e046d39ccc7112cd0"},
	} {
		wantSum(t, fmt.Sprintf("Of of %.60q", c.text), sha.Of([]byte(c.text)), c.want)
	}
}

func TestOfNothing(t *testing.T) {
	wantSum(t, "Of of nil", sha.Of(nil), ofNothing)
	wantSum(t, "Of of an empty list", sha.Of([]byte{}), ofNothing)
}

// What stands behind the bytes must not be taken for bytes of theirs.
func TestOfBytesLikeTheEnd(t *testing.T) {
	wantSum(t, "Of of a nought", sha.Of([]byte{0}),
		"6e340b9cffb37a989ca544e6bb780a2c78901d3fb33738768511a30617afa01d")
	wantSum(t, "Of of 128 and 63 noughts", sha.Of(append([]byte{128}, make([]byte, 63)...)),
		"a9e8913b13864096b9ea592f9548c87654aaf8df24e3437645fac174d1036e1c")
	wantSum(t, "Of of 64 times 255", sha.Of(bytes.Repeat([]byte{255}, 64)),
		"8667e718294e9e0df1d30600ba3eeb201f764aad2dad72748643e4a285e1d1f7")
}

func TestOfLengthsAboutTheEndsOfBlocks(t *testing.T) {
	for _, c := range []struct {
		n    int
		want string
	}{
		{1, "e77b9a9ae9e30b0dbdb6f510a264ef9de781501d7b6b92ae89eb059c5ab743db"},
		{2, "eba438a2bdb6010cd67a37fd01475738e0a958340877a2e368296fddc053891f"},
		{3, "bd3104d103c94ea4640ed297c7ae41914cf4b1ce05ba43507b70f121984c6c6d"},
		{4, "70ae575e5a1516eb83653c2033b4a14ac31a4e47510ac565f119bb05ecb9e884"},
		{31, "adebcbf62c6f1e9e3537991c731f479a1dc8a890976918c096cd95f2e6f46f3c"},
		{32, "27af3a21859a216f52470f6b6e83650907adb6f5dece757c7bea798c45a329c7"},
		{55, "aee45a0fbdb3e1ef92bb516cb6db21861cd10d85f2f9ce2dc9e095dca058f540"},
		{56, "8cefa1287df22812c1b19b1e7674e9066175dc6683a9bce646db7d0f8ae0c42f"},
		{57, "3c24d86c414e4ca5211feec4fee719bd2ef9a802b91e1e05d074146c9eff7616"},
		{63, "5dbc37a8256d8caf17687d8d100bc42d668a4870220ede27450274c47711e843"},
		{64, "8f40ad8a2912b804c5bde0b234ca75e3cca7ab1e13e01f046cd06c34fed11102"},
		{65, "17c9d659c5242ebfafa55f5e98b198c7cd8d8a9060fa798be4a8e0fe681496d6"},
		{111, "354b66fabd24ab54bb3091b0f45c202343404b818b6ddd10a251944390c6622f"},
		{119, "d0aeb3269ced2ae5f55629a924835ab8dc02cc8cba15dd2b9ae36725e552ccd5"},
		{120, "c427067d7e096ad5d49b9022a53a907f6dbcf753b68ec425bbcc43a0ecdf0dd8"},
		{121, "6b372773329b19cb3e61dcd43f6e9fd7020b2684e2102d342fa04386e71a3b27"},
		{127, "f98f95f56fa9c99d66678cd34cd5355b6a5f95f3bf3203c94ef1f77450213b8d"},
		{128, "259c44de26047d68e262349c424dc524975d0eb7316a75f73c946f1c8dbd4d85"},
		{129, "04607c284b2cce761452eaa99a11afb4aae05156089a4a3220638a2f0b6dc13b"},
		{183, "fc57500491ff84e283bcc5a3342dcdfadb1d54feadd58070d368fab341451974"},
		{184, "e37b197224c0f8721fa5299f2eb5faddad350079ba8dc248ddd6abb990246cf1"},
		{191, "32188479c10bd6549af80605cf5b50ed720acbc3d71e7c392cd174ddf83a6486"},
		{192, "e651658e6d1f25e46ffa62244dd97aa4a996f4090bf55303b946d5d21c771e2c"},
		{193, "b2befb608dae6d123ffb9ba863baa1bbcde218a42b6894bc32e430e2c6b719ac"},
		{255, "e2699d1b60d86061b3d2b35a5cc8f2ac8602633a9d6983cd8f73e75630ca1300"},
		{256, "4af4ade3ee9c6cc790f771a993f7f8f1a34683985fea2634a29b75db31fc482d"},
		{1000, "ac2c8865a110e8c43b1fe26785431d2404d7bdf71676a3c21e7bd2ad563051b7"},
		{8191, "e5c11fce6a74c497bdc123a9a6db5704a8f175e1ece0d2e21dfd5ee15c5c84ec"},
		{8192, "009d12f7a87da2abb3076956a93eb641db850458d0d49c9915186a42a9c99e3f"},
		{65536, "23eb7078b9d3359ac307ba1f8cb4b820f345269f557313f6f911ef58ac3835bd"},
	} {
		wantSum(t, fmt.Sprintf("Of of %d bytes", c.n), sha.Of(unlike(c.n)), c.want)
	}
}

// One digest tells of all lengths below 300: that of all their digests.
func TestOfEachLength(t *testing.T) {
	var sums []byte
	for n := range 300 {
		s := sha.Of(unlike(n))
		sums = append(sums, s[:]...)
	}
	wantSum(t, "Of of the digests", sha.Of(sums),
		"221f47325f88ef811303ca1023c2ceb13ddc00d176f49158484e99b1137b6130")
}

// From 2^21 bytes on a fourth byte tells of the bits, from 2^29 on a fifth.
func TestOfManyBytes(t *testing.T) {
	piece := make([]byte, 1<<21)
	wantSum(t, "Of of 2^21-1 bytes", sha.Of(piece[1:]),
		"3eae3e14862b9061a2cbe9c782df1366039096b2d1888c30850b66fb8d87813c")
	wantSum(t, "Of of 2^21 bytes", sha.Of(piece),
		"5647f05ec18958947d32874eeb788fa396a05d0bab7c1b71f112ceb7e9b31eee")
	if testing.Short() {
		t.Skip("2^29 bytes are left out: they take seconds")
	}
	h := sha.New()
	for range 1<<8 - 1 {
		h.Write(piece)
	}
	h.Write(piece[1:])
	wantSum(t, "2^29-1 bytes", h.Sum(),
		"bf7f45d9df691bd277948d7f124b87a9f76e16ddb5d8fb25a49df939798f0a01")
	h.Write(piece[:1])
	wantSum(t, "2^29 bytes", h.Sum(),
		"9acca8e8c22201155389f65abbf6bc9723edc7384ead80503839f49dcc56d767")
}

func TestOfChangesNothing(t *testing.T) {
	for _, n := range []int{0, 3, 55, 56, 64, 100, 128} {
		b := bytes.Repeat([]byte{9}, n+200)
		sha.Of(b[:n])
		h := sha.New()
		h.Write(b[:n])
		h.Sum()
		if !bytes.Equal(b, bytes.Repeat([]byte{9}, n+200)) {
			t.Errorf("%d bytes, or what stands behind them, were changed", n)
		}
	}
}

func TestOfIsTheSameAgain(t *testing.T) {
	b := unlike(150)
	first := sha.Of(b)
	sha.Of(unlike(77))
	if sha.Of(b) != first {
		t.Error("the same bytes have another digest")
	}
}

// P2.2

func TestNewHasNoBytes(t *testing.T) {
	h := sha.New()
	wantSum(t, "New", h.Sum(), ofNothing)
	wantSum(t, "New, asked again", h.Sum(), ofNothing)
}

func TestWriteAppends(t *testing.T) {
	b := unlike(200)
	h := sha.New()
	h.Write(b[:10])
	if h.Sum() != sha.Of(b[:10]) {
		t.Error("behind 10 bytes")
	}
	h.Write(b[10:64])
	if h.Sum() != sha.Of(b[:64]) {
		t.Error("behind 64 bytes")
	}
	h.Write(b[64:])
	if h.Sum() != sha.Of(b) {
		t.Error("behind 200 bytes")
	}
}

func TestWriteOfNothing(t *testing.T) {
	b := unlike(130)
	for _, n := range []int{0, 1, 63, 64, 65, 128, 130} {
		h := sha.New()
		h.Write(nil)
		h.Write(b[:n])
		h.Write([]byte{})
		h.Write(nil)
		if h.Sum() != sha.Of(b[:n]) {
			t.Errorf("nothing written about %d bytes", n)
		}
	}
}

func TestSumChangesNothing(t *testing.T) {
	b := unlike(300)
	for n := range 140 {
		h := sha.New()
		h.Write(b[:n])
		want := sha.Of(b[:n])
		if h.Sum() != want || h.Sum() != want {
			t.Errorf("Sum behind %d bytes", n)
		}
		h.Write(b[n:])
		if h.Sum() != sha.Of(b) {
			t.Errorf("Sum between two Writes, behind %d bytes", n)
		}
	}
}

func TestHashKeepsNoArgument(t *testing.T) {
	for _, n := range []int{5, 64, 70} {
		b := unlike(n)
		h := sha.New()
		h.Write(b)
		clear(b)
		if h.Sum() != sha.Of(unlike(n)) {
			t.Errorf("%d bytes that were changed behind Write", n)
		}
	}
}

func TestHashesKeepApart(t *testing.T) {
	one, other := sha.New(), sha.New()
	one.Write(unlike(100))
	wantSum(t, "the other one", other.Sum(), ofNothing)
	other.Write([]byte("abc"))
	if one.Sum() != sha.Of(unlike(100)) || other.Sum() != sha.Of([]byte("abc")) {
		t.Error("one Hash changed the other")
	}
	wantSum(t, "a new one", sha.New().Sum(), ofNothing)
}

func TestNilHash(t *testing.T) {
	var h *sha.Hash
	wantSum(t, "of nil", h.Sum(), ofNothing)
	h.Write(unlike(100))
	h.Write(nil)
	wantSum(t, "of nil, behind Write", h.Sum(), ofNothing)
}

// P2.3

// inPieces is the digest of bytes cut into pieces of these sizes by turns.
func inPieces(b []byte, sizes ...int) api.Sum {
	h := sha.New()
	for i := 0; len(b) > 0; i++ {
		n := min(sizes[i%len(sizes)], len(b))
		h.Write(b[:n])
		b = b[n:]
	}
	return h.Sum()
}

func TestPiecesOfOneSize(t *testing.T) {
	b := unlike(1000)
	want := sha.Of(b)
	for n := 1; n <= len(b); n++ {
		if inPieces(b, n) != want {
			t.Errorf("pieces of %d bytes", n)
		}
	}
}

func TestPiecesOfManySizes(t *testing.T) {
	b := unlike(5000)
	want := sha.Of(b)
	for _, sizes := range [][]int{
		{1, 63}, {63, 1}, {64, 0, 64}, {65, 63}, {1, 64}, {128, 1, 0, 127},
		{1, 2, 3, 5, 8, 13, 21, 34, 55, 89, 144, 233}, {56, 8}, {55, 9}, {192, 7}, {4096, 64},
	} {
		if inPieces(b, sizes...) != want {
			t.Errorf("pieces of %v bytes by turns", sizes)
		}
	}
}

func TestThreePieces(t *testing.T) {
	b := unlike(140)
	want := sha.Of(b)
	for j := range len(b) + 1 {
		for i := range j + 1 {
			h := sha.New()
			h.Write(b[:i])
			h.Write(b[i:j])
			h.Write(b[j:])
			if h.Sum() != want {
				t.Fatalf("cut at %d and %d", i, j)
			}
		}
	}
}

func TestSumBehindEachByte(t *testing.T) {
	b := unlike(260)
	h := sha.New()
	for i := range b {
		h.Write(b[i : i+1])
		if h.Sum() != sha.Of(b[:i+1]) {
			t.Fatalf("behind %d bytes, one by one", i+1)
		}
	}
}
