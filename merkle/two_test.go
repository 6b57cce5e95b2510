package merkle_test

import (
	"encoding/json"
	"fmt"
	"math/rand/v2"
	"os"
	"os/exec"
	"path/filepath"
	"slices"
	"strings"
	"testing"

	"lighterman/api"
	"lighterman/chunk"
	"lighterman/merkle"
	"lighterman/sha"
)

func ExampleTwo() {
	a, b, c := api.Sum{1}, api.Sum{2}, api.Sum{3}
	_, _, found := merkle.Two([]api.Sum{a, b, c}, []api.Sum{merkle.Node(a, b), c})
	fmt.Println(found) // one Root, but not as many
	// Output:
	// false
}

// P20.3: where there are no two rows

func TestTwoOfRowsThatAreTheSame(t *testing.T) {
	c := chance(30)
	for _, n := range numbers() {
		for _, l := range [][]api.Sum{sums(c, n), alike(n, api.Sum{7})} {
			if wantTwo(t, l, slices.Clone(l)) || wantTwo(t, l, l) {
				t.Errorf("two rows of %d digests", n)
			}
		}
	}
	for _, l := range [][2][]api.Sum{{nil, nil}, {nil, {}}, {{}, nil}, {{}, {}}} {
		if wantTwo(t, l[0], l[1]) {
			t.Error("two rows of no digests")
		}
	}
}

func TestTwoOfRowsWithOtherRoots(t *testing.T) {
	c := chance(31)
	for _, n := range numbers() {
		if n == 0 {
			continue
		}
		l := sums(c, n)
		other := slices.Clone(l)
		at := c.IntN(n)
		other[at] = flipped(l[at], c.IntN(8*api.Digest))
		exchanged := slices.Clone(l)
		exchanged[0], exchanged[n-1] = l[n-1], l[0]
		for _, x := range [][]api.Sum{other, exchanged, sums(c, n), make([]api.Sum, n)} {
			if !slices.Equal(l, x) && wantTwo(t, l, x) {
				t.Errorf("two rows of %d digests", n)
			}
		}
	}
}

// One Root, but not as many: the digest above some stands in their place.
func TestTwoOfRowsThatAreNotAsMany(t *testing.T) {
	c := chance(32)
	for _, n := range []int{2, 3, 4, 5, 8, 9, 16, 100, 1024} {
		l := sums(c, n)
		k := 1
		for 2*k < n {
			k *= 2
		}
		first, others := merkle.Root(l[:k]), merkle.Root(l[k:])
		for _, short := range [][]api.Sum{
			{merkle.Root(l)},
			{first, others},
			append(slices.Clone(l[:k]), others),
		} {
			if len(short) == n {
				continue // it is l
			}
			wantSum(t, fmt.Sprintf("Root of %d digests for %d", len(short), n), merkle.Root(short), merkle.Root(l))
			if wantTwo(t, l, short) || wantTwo(t, short, l) {
				t.Errorf("two rows of %d and %d digests", n, len(short))
			}
		}
		for _, other := range [][]api.Sum{nil, {}, l[:1], l[1:], l[:n-1], append(slices.Clone(l), api.Sum{}), slices.Concat(l, l)} {
			if wantTwo(t, l, other) || wantTwo(t, other, l) {
				t.Errorf("two rows of %d and %d digests", n, len(other))
			}
		}
	}
	if nothing := []api.Sum{sha.Of(nil)}; wantTwo(t, nil, nothing) || wantTwo(t, nothing, nil) {
		t.Error("two rows of no digests and one with their Root")
	}
}

// P20.3 and P20.4: where there are two rows
//
// None are known to have one digest of SHA-256. So these tests run with a digest in its place of which there are only so many: all that the package says of digests must hold of that one, too.

// weakVariable tells a test that it runs by weak digests, and how many of them there are.
const weakVariable = "LIGHTERMAN_WEAK_DIGESTS"

// weakSha is a package in sha's place.
const weakSha = `package sha

import "lighterman/api"

type Hash struct{ all []byte }

func New() *Hash               { return &Hash{} }
func (h *Hash) Write(b []byte) { h.all = append(h.all, b...) }
func (h *Hash) Sum() api.Sum   { return Of(h.all) }

func Of(b []byte) api.Sum {
	x := uint64(14695981039346656037)
	for _, c := range b {
		x = (x ^ uint64(c)) * 1099511628211
		x ^= x >> 29
	}
	return api.Sum{31: byte(x >> 32 % kinds)}
}
`

// runWeak runs a test again, by so many digests.
func runWeak(t *testing.T, test string, kinds int) {
	t.Helper()
	program, err := exec.LookPath("go")
	if err != nil {
		t.Skip("there is no go to run it by")
	}
	c := exec.Command(program, "test", "-count=1", "-overlay="+overlay(t, kinds), "-run=^"+test+"$", ".")
	c.Env = append(os.Environ(), fmt.Sprint(weakVariable, "=", kinds))
	if out, err := c.CombinedOutput(); err != nil {
		t.Errorf("by %d digests: %v\n%s", kinds, err, out)
	}
}

// overlay is a file that tells go to take weakSha for package sha.
func overlay(t *testing.T, kinds int) string {
	t.Helper()
	folder := t.TempDir()
	weak := filepath.Join(folder, "sha.go")
	files, err := filepath.Glob("../sha/*.go")
	must(t, err)
	instead := map[string]string{}
	for _, f := range files {
		if f, err = filepath.Abs(f); err == nil && !strings.HasSuffix(f, "_test.go") {
			instead[f] = "" // as if it weren't there
		}
		must(t, err)
	}
	whole, err := filepath.Abs("../sha/sha.go")
	must(t, err)
	instead[whole] = weak
	list, err := json.Marshal(map[string]any{"Replace": instead})
	must(t, err)
	must(t, os.WriteFile(weak, fmt.Appendf(nil, "%s\nconst kinds = %d\n", weakSha, kinds), 0o600))
	told := filepath.Join(folder, "overlay.json")
	must(t, os.WriteFile(told, list, 0o600))
	return told
}

// must ends the test, unless there is no error.
func must(t *testing.T, err error) {
	t.Helper()
	if err != nil {
		t.Fatal(err)
	}
}

func TestTwo(t *testing.T) {
	if os.Getenv(weakVariable) == "" {
		for _, kinds := range []int{1, 2, 5, 40} {
			runWeak(t, "TestTwo", kinds)
		}
		return
	}
	c := chance(33)
	found, none := 0, 0
	for _, n := range []int{0, 1, 2, 3, 4, 5, 6, 7, 8, 9, 15, 16, 17, 31, 33, 100, 128} {
		for range 200 {
			a, b := rows(c, n)
			if wantTwo(t, a, b) {
				found++
			} else {
				none++
			}
		}
	}
	if found < 50 || none < 50 {
		t.Errorf("two rows %d times, none %d times", found, none)
	}
	if l := sums(c, 2); wantTwo(t, l[:1], l[1:]) {
		t.Error("two rows of one digest each")
	}
}

// rows are two rows of n digests, of few kinds, many of which stand in both.
func rows(c *rand.Rand, n int) ([]api.Sum, []api.Sum) {
	a := make([]api.Sum, n)
	for i := range a {
		a[i] = api.Sum{31: byte(c.IntN(4))}
	}
	b := slices.Clone(a)
	if n > 0 {
		for range c.IntN(4) {
			b[c.IntN(n)] = api.Sum{31: byte(c.IntN(4))}
		}
	}
	return a, b
}

// Where just one digest is another, at each place, however deep it stands.
func TestTwoOfOneChange(t *testing.T) {
	if os.Getenv(weakVariable) == "" {
		for _, kinds := range []int{1, 3, 17} {
			runWeak(t, "TestTwoOfOneChange", kinds)
		}
		return
	}
	c := chance(34)
	for _, n := range []int{2, 3, 4, 5, 6, 7, 8, 9, 10, 31, 32, 33, 64, 65, 100} {
		l := sums(c, n)
		for at := range l {
			if !hasTwo(t, c, l, at) {
				t.Errorf("of %d digests none but that of %d could be changed, so that the Root stays", n, at)
			}
		}
	}
}

// hasTwo tells whether it found another digest for a place, with which the Root stays, and what Two answers is as promised.
func hasTwo(t *testing.T, c *rand.Rand, l []api.Sum, at int) bool {
	t.Helper()
	other := slices.Clone(l)
	for range 2000 {
		other[at] = sums(c, 1)[0]
		if rootInWords(other) == rootInWords(l) {
			return wantTwo(t, l, other) && wantTwo(t, other, l)
		}
	}
	return false
}

func TestTwoOfManyDigests(t *testing.T) {
	if os.Getenv(weakVariable) == "" {
		runWeak(t, "TestTwoOfManyDigests", 7)
		return
	}
	c := chance(35)
	for _, n := range []int{1023, 1024, 1025, 3000} {
		l := sums(c, n)
		for _, at := range []int{0, 1, n / 2, n - 2, n - 1} {
			if !hasTwo(t, c, l, at) {
				t.Errorf("of %d digests none but that of %d could be changed, so that the Root stays", n, at)
			}
		}
	}
}

// P20.4: manifests that are checked against one id are the same, or they show two rows of bytes with one digest.
func TestManifestsOfOneId(t *testing.T) {
	if os.Getenv(weakVariable) == "" {
		runWeak(t, "TestManifestsOfOneId", 60)
		return
	}
	c := chance(36)
	known := map[api.Sum][]merkle.Manifest{}
	byIds, byRoots := 0, 0
	for range 2000 {
		m := merkle.Manifest{Size: uint64(1 + c.IntN(4)), Part: uint32(1 + c.IntN(2))}
		n, err := chunk.Count(m.Size, int(m.Part))
		if err != api.OK {
			t.Fatal(err)
		}
		m.Leaves = sums(c, n)
		id := merkle.Id(m)
		wantCheck(t, m, id, api.OK)
		for _, other := range known[id] {
			switch x, y := rowOfManifest(m), rowOfManifest(other); {
			case same(m, other):
			case !slices.Equal(x, y):
				byIds++
				wantSum(t, "the digest of a manifest's row", sha.Of(x), sha.Of(y))
			default:
				byRoots++
				if !wantTwo(t, m.Leaves, other.Leaves) {
					t.Errorf("no two rows of %d Leaves", n)
				}
			}
		}
		known[id] = append(known[id], m)
	}
	if byIds == 0 || byRoots == 0 {
		t.Errorf("%d times two rows for the ids, %d times for the Roots", byIds, byRoots)
	}
}
