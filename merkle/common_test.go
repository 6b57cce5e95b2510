package merkle_test

import (
	"encoding/hex"
	"math/rand/v2"
	"slices"
	"testing"

	"lighterman/api"
	"lighterman/chunk"
	"lighterman/merkle"
	"lighterman/sha"
)

// What all tests of the package make bytes and digests with, and the promises' own words, which answers are held against.

const (
	mostBytes = 65536 // of a part
	mostParts = 1024
)

// then are lists one behind the other.
func then(lists ...[]byte) []byte { return slices.Concat(lists...) }

// chance are numbers of chance, the same ones for the same seed.
func chance(seed uint64) *rand.Rand { return rand.New(rand.NewPCG(20, seed)) }

// noise are n bytes of chance.
func noise(c *rand.Rand, n int) []byte {
	b := make([]byte, n)
	for i := range b {
		b[i] = byte(c.Uint32())
	}
	return b
}

// sums are n digests of chance.
func sums(c *rand.Rand, n int) []api.Sum {
	l := make([]api.Sum, n)
	for i := range l {
		l[i] = api.Sum(noise(c, api.Digest))
	}
	return l
}

// alike are n times the same digest.
func alike(n int, s api.Sum) []api.Sum { return slices.Repeat([]api.Sum{s}, n) }

// by16 is a digest that is told by 16.
func by16(text string) api.Sum {
	b, err := hex.DecodeString(text)
	if err != nil {
		panic(err)
	}
	return api.Sum(b)
}

// flipped is a digest with one bit changed.
func flipped(s api.Sum, bit int) api.Sum {
	s[bit/8] ^= 1 << (bit % 8)
	return s
}

// number is one in so many bytes, the lowest first.
func number(x uint64, width int) []byte {
	var b []byte
	for range width {
		b = append(b, byte(x%256))
		x /= 256
	}
	return b
}

// with is a manifest with something changed, in memory of its own.
func with(m merkle.Manifest, change func(m *merkle.Manifest)) merkle.Manifest {
	m.Leaves = slices.Clone(m.Leaves)
	change(&m)
	return m
}

// same tells whether two manifests are the same.
func same(a, b merkle.Manifest) bool {
	return a.Size == b.Size && a.Part == b.Part && slices.Equal(a.Leaves, b.Leaves)
}

// leafInWords is what P20.1 says of Leaf.
func leafInWords(b []byte) api.Sum { return sha.Of(then([]byte{0}, b)) }

// nodeInWords is what it says of Node.
func nodeInWords(l, r api.Sum) api.Sum { return sha.Of(then([]byte{1}, l[:], r[:])) }

// rootInWords is what it says of Root.
func rootInWords(l []api.Sum) api.Sum {
	switch len(l) {
	case 0:
		return sha.Of(nil)
	case 1:
		return l[0]
	}
	k := 1
	for 2*k < len(l) {
		k *= 2
	}
	return nodeInWords(rootInWords(l[:k]), rootInWords(l[k:]))
}

// rowOfManifest is what P20.2 takes the digest of, for Id.
func rowOfManifest(m merkle.Manifest) []byte {
	root := rootInWords(m.Leaves)
	return then([]byte{2}, number(m.Size, 8), number(uint64(m.Part), 4), root[:])
}

// idInWords is what P20.2 says of Id.
func idInWords(m merkle.Manifest) api.Sum { return sha.Of(rowOfManifest(m)) }

// ofInWords is what it says of Of.
func ofInWords(b []byte, part int) (merkle.Manifest, api.Errno) {
	if _, err := chunk.Count(uint64(len(b)), part); err != api.OK {
		return merkle.Manifest{}, err
	}
	m := merkle.Manifest{Size: uint64(len(b)), Part: uint32(part)}
	for x := range slices.Chunk(b, part) {
		m.Leaves = append(m.Leaves, leafInWords(x))
	}
	return m, api.OK
}

// checkInWords is what it says of Check.
func checkInWords(m merkle.Manifest, id api.Sum) api.Errno {
	n, err := chunk.Count(m.Size, int(m.Part))
	if err != api.OK {
		return err
	}
	if len(m.Leaves) != n {
		return api.ErrForm
	}
	if idInWords(m) != id {
		return api.ErrOther
	}
	return api.OK
}

// twoInWords is what P20.3 says of whether there are two rows.
func twoInWords(a, b []api.Sum) bool {
	return len(a) == len(b) && !slices.Equal(a, b) && rootInWords(a) == rootInWords(b)
}

// wantSum fails, unless a digest is this one.
func wantSum(t *testing.T, what string, got, want api.Sum) {
	t.Helper()
	if got != want {
		t.Errorf("%s: %x, want %x", what, got, want)
	}
}

// wantLeaf fails, unless Leaf is as it is promised, again and again, and changes nothing.
func wantLeaf(t *testing.T, b []byte) {
	t.Helper()
	memory := then(b, []byte("behind")) // with room behind
	given, ahead := memory[:len(b)], slices.Clone(memory)
	want := leafInWords(b)
	for range 2 {
		if got := merkle.Leaf(given); got != want {
			t.Errorf("Leaf of %d bytes, %.20x: %x, want %x", len(b), b, got, want)
		}
	}
	if !slices.Equal(memory, ahead) {
		t.Errorf("Leaf of %d bytes changes what was handed in", len(b))
	}
}

// wantRoot fails, unless Root is as it is promised, again and again, and changes nothing.
func wantRoot(t *testing.T, l []api.Sum) {
	t.Helper()
	memory := slices.Concat(l, []api.Sum{{1}, {2}})
	given, ahead := memory[:len(l)], slices.Clone(memory)
	want := rootInWords(l)
	for range 2 {
		if got := merkle.Root(given); got != want {
			t.Errorf("Root of %d digests: %x, want %x", len(l), got, want)
		}
	}
	if !slices.Equal(memory, ahead) {
		t.Errorf("Root of %d digests changes what was handed in", len(l))
	}
}

// wantId fails, unless Id is as it is promised, again and again, and changes nothing.
func wantId(t *testing.T, m merkle.Manifest) {
	t.Helper()
	ahead := slices.Clone(m.Leaves)
	want := idInWords(m)
	for range 2 {
		if got := merkle.Id(m); got != want {
			t.Errorf("Id of Size %d, Part %d, %d Leaves: %x, want %x", m.Size, m.Part, len(m.Leaves), got, want)
		}
	}
	if !slices.Equal(m.Leaves, ahead) {
		t.Errorf("Id of %d Leaves changes them", len(m.Leaves))
	}
}

// wantOf fails, unless Of is as it is promised, again and again, in new memory, and changes nothing; it answers the manifest.
func wantOf(t *testing.T, b []byte, part int) merkle.Manifest {
	t.Helper()
	memory := then(b, []byte("behind"))
	given, ahead := memory[:len(b)], slices.Clone(memory)
	want, wantErr := ofInWords(b, part)
	m, err := merkle.Of(given, part)
	if !same(m, want) || err != wantErr {
		t.Errorf("Of of %d bytes, %d: Size %d, Part %d, %d Leaves, error %d; want Size %d, Part %d, %d Leaves, error %d", len(b), part, m.Size, m.Part, len(m.Leaves), int(err), want.Size, want.Part, len(want.Leaves), int(wantErr))
	}
	again, errAgain := merkle.Of(given, part)
	if !same(again, m) || errAgain != err {
		t.Errorf("Of of %d bytes, %d, once more: Size %d, Part %d, %d Leaves, error %d", len(b), part, again.Size, again.Part, len(again.Leaves), int(errAgain))
	}
	clear(again.Leaves[:cap(again.Leaves)])
	if !slices.Equal(memory, ahead) || !same(m, want) {
		t.Errorf("Of of %d bytes, %d: what was handed in was changed, or shares memory with the answer", len(b), part)
	}
	return m
}

// wantCheck fails, unless Check answers this error, and that is the one promised; again and again, and it changes nothing.
func wantCheck(t *testing.T, m merkle.Manifest, id api.Sum, want api.Errno) {
	t.Helper()
	if words := checkInWords(m, id); words != want {
		t.Errorf("Size %d, Part %d, %d Leaves: error %d is wanted, error %d is promised", m.Size, m.Part, len(m.Leaves), int(want), int(words))
	}
	ahead := slices.Clone(m.Leaves)
	for range 2 {
		if err := merkle.Check(m, id); err != want {
			t.Errorf("Check of Size %d, Part %d, %d Leaves: error %d, want error %d", m.Size, m.Part, len(m.Leaves), int(err), int(want))
		}
	}
	if !slices.Equal(m.Leaves, ahead) {
		t.Errorf("Check of %d Leaves changes them", len(m.Leaves))
	}
}

// wantTwo fails, unless Two is as it is promised, again and again, in new memory, and changes nothing; it tells whether there are two rows.
func wantTwo(t *testing.T, a, b []api.Sum) bool {
	t.Helper()
	memoryA, memoryB := slices.Concat(a, []api.Sum{{1}}), slices.Concat(b, []api.Sum{{2}})
	givenA, givenB := memoryA[:len(a)], memoryB[:len(b)]
	x, y, fine := merkle.Two(givenA, givenB)
	if want := twoInWords(a, b); fine != want {
		t.Errorf("Two of %d and %d digests: %t, want %t", len(a), len(b), fine, want)
	}
	switch {
	case !fine && (len(x) > 0 || len(y) > 0):
		t.Errorf("Two of %d and %d digests: %x, %x beside false", len(a), len(b), x, y)
	case fine && slices.Equal(x, y):
		t.Errorf("Two of %d digests: twice the same row, %x", len(a), x)
	case fine && sha.Of(x) != sha.Of(y):
		t.Errorf("Two of %d digests: %x, %x have two digests", len(a), x, y)
	}
	keptX, keptY := slices.Clone(x), slices.Clone(y)
	againX, againY, againFine := merkle.Two(givenA, givenB)
	if againFine != fine || !slices.Equal(againX, x) || !slices.Equal(againY, y) {
		t.Errorf("Two of %d and %d digests, once more: %t, %x, %x", len(a), len(b), againFine, againX, againY)
	}
	clear(againX[:cap(againX)])
	if fine && !slices.Equal(againY, keptY) {
		t.Errorf("Two of %d digests: both rows share memory", len(a))
	}
	clear(againY[:cap(againY)])
	if !slices.Equal(memoryA, slices.Concat(a, []api.Sum{{1}})) || !slices.Equal(memoryB, slices.Concat(b, []api.Sum{{2}})) {
		t.Errorf("Two of %d and %d digests: what was handed in was changed, or shares memory with the rows", len(a), len(b))
	}
	clear(memoryA)
	clear(memoryB)
	if !slices.Equal(x, keptX) || !slices.Equal(y, keptY) {
		t.Errorf("Two of %d and %d digests: the rows change with what was handed in, or with those of another call", len(a), len(b))
	}
	return fine
}
