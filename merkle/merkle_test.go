package merkle_test

import (
	"encoding/hex"
	"fmt"
	"math"
	"slices"
	"testing"

	"lighterman/api"
	"lighterman/merkle"
	"lighterman/sha"
)

func ExampleRoot() {
	a, b, c := api.Sum{1}, api.Sum{2}, api.Sum{3}
	fmt.Println(merkle.Root([]api.Sum{a, b, c}) == merkle.Node(merkle.Node(a, b), c))
	fmt.Println(merkle.Root([]api.Sum{a}) == a)
	// Output:
	// true
	// true
}

func ExampleCheck() {
	m, err := merkle.Of([]byte("over and over"), 5)
	fmt.Println(len(m.Leaves), err == api.OK)
	id := merkle.Id(m)
	fmt.Println(merkle.Check(m, id) == api.OK)
	m.Leaves[2] = merkle.Leaf([]byte("ove"))
	fmt.Println(merkle.Check(m, id) == api.ErrOther)
	// Output:
	// 3 true
	// true
	// true
}

// P20.1: Leaf

// sizes are numbers of bytes about those at which a digest has a block more, and of a whole part.
func sizes() []int {
	return []int{0, 1, 2, 31, 32, 33, 53, 54, 55, 56, 57, 62, 63, 64, 65, 118, 119, 120, 126, 127, 128, 1000, mostBytes - 1, mostBytes, mostBytes + 1, 1 << 20}
}

func TestLeaf(t *testing.T) {
	c := chance(1)
	for _, n := range sizes() {
		wantLeaf(t, noise(c, n))
		wantLeaf(t, make([]byte, n))
	}
	for n := range 300 {
		wantLeaf(t, noise(c, n))
	}
	for x := range 256 {
		wantLeaf(t, []byte{byte(x)})
	}
	wantSum(t, "Leaf of an empty list", merkle.Leaf([]byte{}), merkle.Leaf(nil))
}

// As another program tells them.
func TestKnownLeaves(t *testing.T) {
	for _, c := range []struct{ b, want string }{
		{"", "6e340b9cffb37a989ca544e6bb780a2c78901d3fb33738768511a30617afa01d"},
		{"00", "96a296d224f285c67bee93c30f8a309157f0daa35dc5b87e410b78630a09cfc7"},
		{"10", "0298d122906dcfc10892cb53a73992fc5b9f493ea4c9badb27b791b4127a7fe7"},
		{"2021", "07506a85fd9dd2f120eb694f86011e5bb4662e5c415a62917033d4a9624487e7"},
	} {
		b, err := hex.DecodeString(c.b)
		if err != nil {
			t.Fatal(err)
		}
		wantSum(t, "Leaf of "+c.b, merkle.Leaf(b), by16(c.want))
	}
}

func TestLeafIsntTheDigestOfTheBytes(t *testing.T) {
	c := chance(2)
	for _, n := range sizes() {
		b := noise(c, n)
		if merkle.Leaf(b) == sha.Of(b) {
			t.Errorf("of %d bytes it is", n)
		}
	}
}

// P20.1: Node

func TestNode(t *testing.T) {
	c := chance(3)
	for range 300 {
		l := sums(c, 2)
		for range 2 {
			wantSum(t, fmt.Sprintf("Node of %x", l), merkle.Node(l[0], l[1]), nodeInWords(l[0], l[1]))
			wantSum(t, fmt.Sprintf("Node of twice %x", l[0]), merkle.Node(l[0], l[0]), nodeInWords(l[0], l[0]))
		}
		if merkle.Node(l[0], l[1]) == merkle.Node(l[1], l[0]) {
			t.Errorf("Node of %x, and of these exchanged, are one", l)
		}
	}
}

func TestNodeOfEachBit(t *testing.T) {
	l := sums(chance(4), 2)
	seen := map[api.Sum]int{merkle.Node(l[0], l[1]): -1}
	for bit := range 8 * api.Digest {
		for i, x := range []api.Sum{merkle.Node(flipped(l[0], bit), l[1]), merkle.Node(l[0], flipped(l[1], bit))} {
			if other, ok := seen[x]; ok {
				t.Errorf("Node with bit %d of digest %d changed is that with %d", bit, i, other)
			}
			seen[x] = 2*bit + i
		}
	}
}

// Neither a part of just these bytes, nor a digest of them alone, is a Node.
func TestNodeIsntALeaf(t *testing.T) {
	l := sums(chance(5), 2)
	both := then(l[0][:], l[1][:])
	if x := merkle.Node(l[0], l[1]); x == merkle.Leaf(both) || x == merkle.Leaf(then([]byte{1}, both)) || x == sha.Of(both) {
		t.Errorf("%x", x)
	}
}

// P20.1: Root

// numbers are how many digests there may be: up to some hundred, about powers of 2, and about the most parts.
func numbers() []int {
	var l []int
	for n := range 300 {
		l = append(l, n)
	}
	for _, n := range []int{511, 512, 513, 767, 768, 769, 1000, mostParts - 1, mostParts, mostParts + 1, 2047, 2048, 2049, 5000} {
		l = append(l, n)
	}
	return l
}

func TestRoot(t *testing.T) {
	c := chance(6)
	for _, n := range numbers() {
		wantRoot(t, sums(c, n))
		wantRoot(t, alike(n, api.Sum{7}))
		wantRoot(t, make([]api.Sum, n))
	}
	wantSum(t, "Root of an empty list", merkle.Root([]api.Sum{}), merkle.Root(nil))
}

// As another program tells them.
func TestKnownRoots(t *testing.T) {
	var l []api.Sum
	for n, c := range []struct{ next, want string }{
		{"", "e3b0c44298fc1c149afbf4c8996fb92427ae41e4649b934ca495991b7852b855"},
		{"00", "6e340b9cffb37a989ca544e6bb780a2c78901d3fb33738768511a30617afa01d"},
		{"10", "fac54203e7cc696cf0dfcb42c92a1d9dbaf70ad9e621f4bd8d98662f00e3c125"},
		{"2021", "aeb6bcfe274b70a14fb067a5e5578264db0fa9b51af5e0ba159158f329e06e77"},
		{"3031", "d37ee418976dd95753c1c73862b9398fa2a2cf9b4ff0fdfe8b30cd95209614b7"},
		{"40414243", "4e3bbb1f7b478dcfe71fb631631519a3bca12c9aefca1612bfce4c13a86264d4"},
		{"5051525354555657", "76e67dadbcdf1e10e1b74ddc608abd2f98dfb16fbce75277b5232a127f2087ef"},
		{"606162636465666768696a6b6c6d6e6f", "ddb89be403809e325750d3d263cd78929c2942b7942a34b77e122c9594a74c8c"},
		{"", "5dc9da79a70659a9ad559cb701ded9a2ab9d823aad2f4960cfe370eff4604328"},
	} {
		wantSum(t, fmt.Sprintf("Root of %d", n), merkle.Root(l), by16(c.want))
		b, err := hex.DecodeString(c.next)
		if err != nil {
			t.Fatal(err)
		}
		l = append(l, merkle.Leaf(b))
	}
}

func TestRootOfFew(t *testing.T) {
	c := chance(7)
	for range 50 {
		l := sums(c, 8)
		a, b := merkle.Node(l[0], l[1]), merkle.Node(l[2], l[3])
		four := merkle.Node(a, b)
		for n, want := range []api.Sum{
			sha.Of(nil), l[0], a, merkle.Node(a, l[2]), four,
			merkle.Node(four, l[4]),
			merkle.Node(four, merkle.Node(l[4], l[5])),
			merkle.Node(four, merkle.Node(merkle.Node(l[4], l[5]), l[6])),
			merkle.Node(four, merkle.Node(merkle.Node(l[4], l[5]), merkle.Node(l[6], l[7]))),
		} {
			wantSum(t, fmt.Sprintf("Root of %d", n), merkle.Root(l[:n]), want)
		}
	}
}

func TestRootIsOfTheOrder(t *testing.T) {
	c := chance(8)
	for _, n := range []int{2, 3, 4, 5, 7, 8, 9, 31, 32, 33, mostParts} {
		l := sums(c, n)
		root := merkle.Root(l)
		for range min(4*n, 200) {
			i, k := c.IntN(n), c.IntN(n)
			other := slices.Clone(l)
			other[i], other[k] = other[k], other[i]
			if (merkle.Root(other) == root) != (i == k) {
				t.Errorf("of %d digests those of %d and %d are exchanged", n, i, k)
			}
		}
	}
}

func TestRootIsOfEachDigest(t *testing.T) {
	c := chance(9)
	for _, n := range []int{1, 2, 3, 5, 8, 13, 64, 100} {
		l := sums(c, n)
		seen := map[api.Sum]int{merkle.Root(l): -1}
		for i := range l {
			other := slices.Clone(l)
			other[i] = flipped(l[i], c.IntN(8*api.Digest))
			root := merkle.Root(other)
			if k, ok := seen[root]; ok {
				t.Errorf("of %d digests, with that of %d changed, it is that with %d", n, i, k)
			}
			seen[root] = i
		}
	}
}

// Digests all alike, of different numbers, have different Roots.
func TestRootIsOfHowMany(t *testing.T) {
	seen := map[api.Sum]int{}
	for n := range 600 {
		root := merkle.Root(alike(n, api.Sum{7}))
		if k, ok := seen[root]; ok {
			t.Errorf("of %d digests it is that of %d", n, k)
		}
		seen[root] = n
	}
}

// P20.2: Id

func TestId(t *testing.T) {
	c := chance(10)
	for _, size := range []uint64{0, 1, 255, 256, 10, 1 << 26, 1<<32 - 1, 1 << 32, 1<<56 + 5, math.MaxUint64 - 1, math.MaxUint64, 0x0807060504030201} {
		for _, part := range []uint32{0, 1, 255, 256, 65536, 65537, 1 << 24, math.MaxUint32 - 1, math.MaxUint32, 0x04030201} {
			for _, n := range []int{0, 1, 2, 3, 10} {
				wantId(t, merkle.Manifest{Size: size, Part: part, Leaves: sums(c, n)})
			}
			none, empty := merkle.Manifest{Size: size, Part: part}, merkle.Manifest{Size: size, Part: part, Leaves: []api.Sum{}}
			wantSum(t, "Id of an empty list of Leaves", merkle.Id(empty), merkle.Id(none))
		}
	}
	for _, n := range numbers() {
		wantId(t, merkle.Manifest{Size: c.Uint64(), Part: c.Uint32(), Leaves: sums(c, n)})
	}
}

// As another program tells them.
func TestKnownIds(t *testing.T) {
	for _, c := range []struct {
		b    string
		part int
		want string
	}{
		{"", 1, "7c8ed49be5fc0ac60923f7daaa1d8bd3682679ce8ce8b9155f0f9d36b265a8f7"},
		{"", 65536, "b1a3f47f68e246ffb937f688554a3a34cd45cedd8fb7dcd7e92969891a22137c"},
		{"a", 1, "8b3cccef0d1c263d9ab1ceb7364eba046c2074e89df0e705ab5f9839ff80f7af"},
		{"over and over", 5, "eb3d4e9b26fda6364357159f3e5274d0d4d7bd2fc68f949422c032d3be6d060c"},
		{"over and over", 13, "b67499fb21944bcf5cd80a203f525c911ca6d1e553e37e16de0544437c99ba42"},
		{"over and over", 1, "ae6b5988f9ee675245741bb58b264e1ea84c960cd337cf18480ca3a6e868fe49"},
	} {
		m, err := merkle.Of([]byte(c.b), c.part)
		if err != api.OK {
			t.Fatal(err)
		}
		wantSum(t, fmt.Sprintf("Id of %q, %d", c.b, c.part), merkle.Id(m), by16(c.want))
	}
}

// wantAllUnlike fails, if two of these manifests have one Id.
func wantAllUnlike(t *testing.T, all []merkle.Manifest) {
	t.Helper()
	seen := map[api.Sum]int{}
	for i, m := range all {
		id := merkle.Id(m)
		if k, ok := seen[id]; ok {
			t.Errorf("manifests %d and %d have one Id: Size %d and %d, Part %d and %d, %d and %d Leaves", k, i, all[k].Size, m.Size, all[k].Part, m.Part, len(all[k].Leaves), len(m.Leaves))
		}
		seen[id] = i
	}
}

func TestIdIsOfEachChange(t *testing.T) {
	c := chance(11)
	for _, n := range []int{0, 1, 2, 3, 8, 9, 20} {
		m := merkle.Manifest{Size: c.Uint64(), Part: c.Uint32(), Leaves: sums(c, n)}
		all := []merkle.Manifest{m}
		for bit := range 64 {
			all = append(all, with(m, func(m *merkle.Manifest) { m.Size ^= 1 << bit }))
		}
		for bit := range 32 {
			all = append(all, with(m, func(m *merkle.Manifest) { m.Part ^= 1 << bit }))
		}
		for i := range n {
			all = append(all,
				with(m, func(m *merkle.Manifest) { m.Leaves[i] = flipped(m.Leaves[i], 0) }),
				with(m, func(m *merkle.Manifest) { m.Leaves[i] = flipped(m.Leaves[i], 255) }),
				with(m, func(m *merkle.Manifest) { m.Leaves = m.Leaves[:i] }))
		}
		all = append(all,
			with(m, func(m *merkle.Manifest) { m.Leaves = append(m.Leaves, api.Sum{}) }),
			with(m, func(m *merkle.Manifest) { m.Leaves = append(m.Leaves, api.Sum{9}) }))
		if n > 1 {
			all = append(all, with(m, func(m *merkle.Manifest) { m.Leaves[0], m.Leaves[n-1] = m.Leaves[n-1], m.Leaves[0] }))
		}
		wantAllUnlike(t, all)
	}
}

// An Id isn't a Root, nor a digest without the byte ahead.
func TestIdHasAByteAhead(t *testing.T) {
	m := merkle.Manifest{Size: 5, Part: 7, Leaves: sums(chance(12), 1)}
	row := rowOfManifest(m)
	id := merkle.Id(m)
	if id == m.Leaves[0] || id == sha.Of(row[1:]) || id == merkle.Leaf(row[1:]) || id == sha.Of(then([]byte{1}, row[1:])) {
		t.Errorf("%x", id)
	}
}

// P20.2: Of

func TestOfWithAPartThatMayNotBe(t *testing.T) {
	for _, part := range []int{math.MinInt, math.MinInt + 1, math.MinInt32, -65536, -2, -1, 0, 65537, 65538, 1 << 31, 1 << 32, 1<<32 + 1, 1<<32 + 4, math.MaxInt - 1, math.MaxInt} {
		for _, n := range []int{0, 1, 10, 1025, 70000} {
			m := wantOf(t, make([]byte, n), part)
			if _, err := merkle.Of(make([]byte, n), part); err != api.ErrArg || m.Size != 0 || m.Part != 0 || len(m.Leaves) > 0 {
				t.Errorf("Of of %d bytes, %d: %v, error %d; want ErrArg alone", n, part, m, int(err))
			}
		}
	}
}

func TestOfTooManyParts(t *testing.T) {
	for _, c := range []struct{ size, part int }{{1025, 1}, {1026, 1}, {2049, 2}, {4097, 4}, {70000, 68}, {1024*100 + 1, 100}, {1024*1000 + 1, 1000}} {
		m := wantOf(t, make([]byte, c.size), c.part)
		if _, err := merkle.Of(make([]byte, c.size), c.part); err != api.ErrBig || m.Size != 0 || m.Part != 0 || len(m.Leaves) > 0 {
			t.Errorf("Of of %d bytes, %d: %v, error %d; want ErrBig alone", c.size, c.part, m, int(err))
		}
	}
}

func TestOfNoBytes(t *testing.T) {
	for _, part := range []int{1, 2, 100, 65535, 65536} {
		for _, b := range [][]byte{nil, {}} {
			m := wantOf(t, b, part)
			if m.Size != 0 || m.Part != uint32(part) || len(m.Leaves) > 0 {
				t.Errorf("Of of none, %d: %v", part, m)
			}
			wantCheck(t, m, merkle.Id(m), api.OK)
		}
	}
}

func TestOf(t *testing.T) {
	c := chance(13)
	for _, part := range []int{1, 2, 3, 4, 5, 10, 53, 54, 55, 56, 63, 64, 65, 1000, 65535, 65536} {
		for _, n := range []int{1, part - 1, part, part + 1, 2*part - 1, 2 * part, 2*part + 1, 7*part - 1, 7 * part, 7*part + 1} {
			m := wantOf(t, noise(c, n), part)
			wantCheck(t, m, merkle.Id(m), api.OK)
		}
	}
	for n := range 60 {
		for part := 1; part < 65; part++ {
			wantOf(t, noise(c, n), part)
		}
	}
}

func TestOfTheMostParts(t *testing.T) {
	c := chance(14)
	for _, part := range []int{1, 2, 3, 100, 1000} {
		for _, n := range []int{1023*part - 1, 1023 * part, 1023*part + 1, 1024*part - 1, 1024 * part} {
			m := wantOf(t, noise(c, n), part)
			if want := (n + part - 1) / part; len(m.Leaves) != want {
				t.Errorf("Of of %d bytes, %d: %d Leaves, want %d", n, part, len(m.Leaves), want)
			}
			wantCheck(t, m, merkle.Id(m), api.OK)
		}
		wantOf(t, noise(c, 1024*part+1), part)
	}
}

// The most parts, of the most bytes.
func TestOfTheGreatestFile(t *testing.T) {
	if testing.Short() {
		t.Skip("takes seconds")
	}
	b := slices.Repeat(noise(chance(15), 65537), 1024) // no two parts are the same
	m, err := merkle.Of(b[:1<<26], mostBytes)
	if err != api.OK || m.Size != 1<<26 || m.Part != mostBytes || len(m.Leaves) != mostParts {
		t.Fatalf("Size %d, Part %d, %d Leaves, error %d", m.Size, m.Part, len(m.Leaves), int(err))
	}
	for i, x := range m.Leaves {
		wantSum(t, fmt.Sprintf("Leaf %d", i), x, leafInWords(b[i*mostBytes:(i+1)*mostBytes]))
	}
	wantSum(t, "Id", merkle.Id(m), idInWords(m))
	if err := merkle.Check(m, merkle.Id(m)); err != api.OK {
		t.Errorf("Check: error %d", int(err))
	}
	m, err = merkle.Of(b[:1<<26+1], mostBytes)
	if err != api.ErrBig || m.Size != 0 || m.Part != 0 || len(m.Leaves) > 0 {
		t.Errorf("of a byte more: Size %d, Part %d, %d Leaves, error %d; want ErrBig alone", m.Size, m.Part, len(m.Leaves), int(err))
	}
}

// Parts are told in their order.
func TestOfIsOfTheOrder(t *testing.T) {
	m := wantOf(t, []byte("aaaabbbbaaaacc"), 4)
	for i, part := range []string{"aaaa", "bbbb", "aaaa", "cc"} {
		wantSum(t, fmt.Sprintf("Leaf %d", i), m.Leaves[i], merkle.Leaf([]byte(part)))
	}
}

// P20.2: Check

// fitting is a manifest of chance that has as many Leaves as it must.
func fitting(seed uint64, size uint64, part uint32, n int) merkle.Manifest {
	return merkle.Manifest{Size: size, Part: part, Leaves: sums(chance(seed), n)}
}

func TestCheckOfAPartThatMayNotBe(t *testing.T) {
	for _, part := range []uint32{0, 65537, 65538, 1 << 17, 1<<16 + 4, 1 << 31, 1<<31 + 4, math.MaxUint32 - 1, math.MaxUint32} {
		for _, size := range []uint64{0, 1, 10, 1 << 26, 1 << 32, math.MaxUint64} {
			for _, n := range []int{0, 1, 3, mostParts} {
				m := fitting(16, size, part, n)
				wantCheck(t, m, merkle.Id(m), api.ErrArg)
				wantCheck(t, m, api.Sum{}, api.ErrArg)
			}
		}
	}
}

func TestCheckOfTooManyParts(t *testing.T) {
	for _, c := range []struct {
		size uint64
		part uint32
	}{{1025, 1}, {2049, 2}, {1<<26 + 1, 65536}, {1 << 26, 65535}, {1 << 32, 1}, {1<<32 + 1, 4}, {1 << 63, 65536}, {math.MaxUint64, 1}, {math.MaxUint64, 2}, {math.MaxUint64, 65535}, {math.MaxUint64, 65536}, {math.MaxUint64 - 65535, 65536}} {
		for _, n := range []int{0, 1, mostParts, mostParts + 1} {
			m := fitting(17, c.size, c.part, n)
			wantCheck(t, m, merkle.Id(m), api.ErrBig)
			wantCheck(t, m, api.Sum{}, api.ErrBig)
		}
	}
}

func TestCheckOfLeavesThatAreNotAsMany(t *testing.T) {
	for _, c := range []struct {
		size uint64
		part uint32
		n    int
	}{{0, 1, 0}, {0, 65536, 0}, {1, 1, 1}, {1, 65536, 1}, {10, 4, 3}, {12, 4, 3}, {13, 4, 4}, {1024, 1, 1024}, {1 << 26, 65536, 1024}, {1<<26 - 65536, 65536, 1023}} {
		m := fitting(18, c.size, c.part, c.n)
		wantCheck(t, m, merkle.Id(m), api.OK)
		for _, n := range []int{0, 1, c.n - 1, c.n + 1, c.n + 2, 2*c.n + 1, 1023, 1024, 1025} {
			if n == c.n || n < 0 {
				continue
			}
			other := fitting(18, c.size, c.part, n)
			wantCheck(t, other, merkle.Id(other), api.ErrForm)
			wantCheck(t, other, merkle.Id(m), api.ErrForm)
			wantCheck(t, other, api.Sum{}, api.ErrForm)
		}
	}
}

func TestCheckOfAnotherId(t *testing.T) {
	for _, c := range []struct {
		size uint64
		part uint32
		n    int
	}{{0, 1, 0}, {1, 1, 1}, {10, 4, 3}, {1024, 1, 1024}, {1 << 26, 65536, 1024}} {
		m := fitting(19, c.size, c.part, c.n)
		id := merkle.Id(m)
		wantCheck(t, m, id, api.OK)
		for bit := range 8 * api.Digest {
			if err := merkle.Check(m, flipped(id, bit)); err != api.ErrOther {
				t.Errorf("Size %d, Part %d, bit %d of the id changed: error %d", c.size, c.part, bit, int(err))
			}
			if c.n > 100 && bit > 20 {
				break
			}
		}
		wantCheck(t, m, api.Sum{}, api.ErrOther)
		wantCheck(t, m, merkle.Root(m.Leaves), api.ErrOther)
		wantCheck(t, m, sha.Of(nil), api.ErrOther)
	}
}

func TestCheckOfChangedManifests(t *testing.T) {
	c := chance(20)
	m := fitting(20, 10, 4, 3)
	id := merkle.Id(m)
	for i := range m.Leaves {
		for bit := range 8 * api.Digest {
			wantCheck(t, with(m, func(m *merkle.Manifest) { m.Leaves[i] = flipped(m.Leaves[i], bit) }), id, api.ErrOther)
		}
	}
	for _, size := range []uint64{9, 11, 12} { // as many parts
		wantCheck(t, with(m, func(m *merkle.Manifest) { m.Size = size }), id, api.ErrOther)
	}
	wantCheck(t, with(m, func(m *merkle.Manifest) { m.Part = 3; m.Size = 9 }), id, api.ErrOther)
	wantCheck(t, with(m, func(m *merkle.Manifest) { m.Part = 3 }), id, api.ErrForm)
	wantCheck(t, with(m, func(m *merkle.Manifest) { m.Part = 5 }), id, api.ErrForm)
	wantCheck(t, with(m, func(m *merkle.Manifest) { m.Leaves[0], m.Leaves[1] = m.Leaves[1], m.Leaves[0] }), id, api.ErrOther)
	for range 2000 {
		other := merkle.Manifest{Size: uint64(c.IntN(20)), Part: uint32(c.IntN(8)), Leaves: sums(c, c.IntN(8))}
		err := merkle.Check(other, merkle.Id(other))
		if want := checkInWords(other, merkle.Id(other)); err != want {
			t.Errorf("Check of Size %d, Part %d, %d Leaves: error %d, want error %d", other.Size, other.Part, len(other.Leaves), int(err), int(want))
		}
		wantCheck(t, other, merkle.Id(other), err)
	}
}

// P20.4: what isn't the same has another id.
func TestManifestsOfFilesAreUnlike(t *testing.T) {
	var all []merkle.Manifest
	for _, b := range []string{"", "a", "aa", "ab", "ba", "aaa", "aab", "baa", "aaaa", "aaaaaaaa", "\x00", "\x00\x00", "\x01a"} {
		for part := 1; part < 10; part++ {
			all = append(all, wantOf(t, []byte(b), part))
		}
	}
	wantAllUnlike(t, all)
	for i, m := range all {
		for k, other := range all {
			id := merkle.Id(other)
			if fine := merkle.Check(m, id) == api.OK; fine != (i == k) {
				t.Errorf("manifest %d, by the id of %d: %t", i, k, fine)
			}
		}
	}
}
