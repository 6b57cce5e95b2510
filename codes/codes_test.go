package codes_test

import (
	"fmt"
	"math"
	"math/rand/v2"
	"testing"

	"lighterman/api"
	"lighterman/codes"
)

func ExampleOf() {
	code, added, err := codes.Of(codes.Literals, 17)
	fmt.Println(code, added, err == api.OK)
	// Output: 16 1 true
}

func ExampleCode() {
	begin, bits, err := codes.Code(codes.Literals, 16)
	fmt.Println(begin, bits, err == api.OK)
	// Output: 16 1 true
}

func ExampleLast() {
	fmt.Println(codes.Last(codes.Literals), codes.Last(codes.Offsets), codes.Last(codes.Matches))
	// Output: 35 31 52
}

// place is where a code begins, and how many bits it adds.
type place struct {
	begin uint32
	bits  int
}

// end is where the code ends: the next one would begin there.
func (p place) end() uint64 { return uint64(p.begin) + 1<<p.bits }

// has tells whether a value is the code's.
func (p place) has(value uint32) bool { return value >= p.begin && uint64(value) < p.end() }

// Codes that add bits, as RFC 8878 gives them in 3.1.1.3.2.1.1; those below them add none.
var (
	literalsThatAdd = []place{
		{16, 1}, {18, 1}, {20, 1}, {22, 1}, {24, 2}, {28, 2}, {32, 3}, {40, 3}, {48, 4}, {64, 6},
		{128, 7}, {256, 8}, {512, 9}, {1024, 10}, {2048, 11}, {4096, 12}, {8192, 13}, {16384, 14}, {32768, 15}, {65536, 16},
	}
	matchesThatAdd = []place{
		{35, 1}, {37, 1}, {39, 1}, {41, 1}, {43, 2}, {47, 2}, {51, 3}, {59, 3}, {67, 4}, {83, 4}, {99, 5},
		{131, 7}, {259, 8}, {515, 9}, {1027, 10}, {2051, 11}, {4099, 12}, {8195, 13}, {16387, 14}, {32771, 15}, {65539, 16},
	}
)

// plain are so many codes of one value each, from this one on, and others behind them.
func plain(n int, from uint32, others []place) []place {
	var all []place
	for c := range n {
		all = append(all, place{from + uint32(c), 0})
	}
	return append(all, others...)
}

// powers are the codes of offsets.
func powers() []place {
	var all []place
	for c := range 32 {
		all = append(all, place{uint32(math.Pow(2, float64(c))), c})
	}
	return all
}

// placesOf are a kind's codes, from 0 on.
func placesOf(kind int) []place {
	switch kind {
	case codes.Literals:
		return plain(16, 0, literalsThatAdd)
	case codes.Offsets:
		return powers()
	case codes.Matches:
		return plain(32, 3, matchesThatAdd)
	}
	panic("no kind")
}

// kinds are those that there are.
func kinds() []int { return []int{codes.Literals, codes.Offsets, codes.Matches} }

// noKinds are some that there aren't; those of 2^32 and more would be kinds in 32 bits, or in 8.
func noKinds() []int {
	return []int{-1, -2, -3, math.MinInt, 3, 4, 31, 35, 52, 255, 256, 257, 1 << 32, 1<<32 + 1, 1<<32 + 2, math.MinInt32, math.MaxInt32, math.MaxInt}
}

// mostOf is the greatest value that a kind has.
func mostOf(kind int) uint32 {
	return [...]uint32{codes.Literals: 131071, codes.Offsets: math.MaxUint32, codes.Matches: 131074}[kind]
}

func wantCode(t *testing.T, kind, code int, begin uint32, bits int, err api.Errno) {
	t.Helper()
	if b, n, e := codes.Code(kind, code); b != begin || n != bits || e != err {
		t.Errorf("Code of kind %d, code %d: %d, %d bits, error %d; want %d, %d bits, error %d", kind, code, b, n, int(e), begin, bits, int(err))
	}
}

func wantOf(t *testing.T, kind int, value uint32, code int, added uint32, err api.Errno) {
	t.Helper()
	if c, x, e := codes.Of(kind, value); c != code || x != added || e != err {
		t.Errorf("Of of kind %d, value %d: code %d, %d added, error %d; want code %d, %d added, error %d", kind, value, c, x, int(e), code, added, int(err))
	}
}

func TestKinds(t *testing.T) {
	if codes.Literals != 0 || codes.Offsets != 1 || codes.Matches != 2 {
		t.Error(codes.Literals, codes.Offsets, codes.Matches)
	}
	// They are of no type of their own, so that a byte may be held against them, too.
	var b byte = codes.Matches
	if b != 2 {
		t.Error(b)
	}
}

// P11.1

func TestCodeOfEachCode(t *testing.T) {
	for _, kind := range kinds() {
		for c, p := range placesOf(kind) {
			wantCode(t, kind, c, p.begin, p.bits, api.OK)
		}
	}
}

// The first and the last ones, and those about where bits begin to be added, one by one.
func TestCodeOfSomeCodes(t *testing.T) {
	for _, c := range []struct {
		kind, code int
		begin      uint32
		bits       int
	}{
		{codes.Literals, 0, 0, 0}, {codes.Literals, 1, 1, 0}, {codes.Literals, 15, 15, 0}, {codes.Literals, 16, 16, 1},
		{codes.Literals, 17, 18, 1}, {codes.Literals, 24, 48, 4}, {codes.Literals, 25, 64, 6}, {codes.Literals, 34, 32768, 15}, {codes.Literals, 35, 65536, 16},
		{codes.Offsets, 0, 1, 0}, {codes.Offsets, 1, 2, 1}, {codes.Offsets, 2, 4, 2}, {codes.Offsets, 3, 8, 3}, {codes.Offsets, 16, 65536, 16},
		{codes.Offsets, 30, 1073741824, 30}, {codes.Offsets, 31, 2147483648, 31},
		{codes.Matches, 0, 3, 0}, {codes.Matches, 1, 4, 0}, {codes.Matches, 31, 34, 0}, {codes.Matches, 32, 35, 1}, {codes.Matches, 33, 37, 1},
		{codes.Matches, 41, 83, 4}, {codes.Matches, 42, 99, 5}, {codes.Matches, 43, 131, 7}, {codes.Matches, 51, 32771, 15}, {codes.Matches, 52, 65539, 16},
	} {
		wantCode(t, c.kind, c.code, c.begin, c.bits, api.OK)
	}
}

// As the chapter's words tell them: each one begins where the one ahead ends, but offsets' at powers of 2.
func TestCodeFollowsTheOneAhead(t *testing.T) {
	for _, c := range []struct {
		kind, none int
		begin      uint32
		bits       []int
	}{
		{codes.Literals, 16, 0, []int{1, 1, 1, 1, 2, 2, 3, 3, 4, 6, 7, 8, 9, 10, 11, 12, 13, 14, 15, 16}},
		{codes.Matches, 32, 3, []int{1, 1, 1, 1, 2, 2, 3, 3, 4, 4, 5, 7, 8, 9, 10, 11, 12, 13, 14, 15, 16}},
	} {
		bits := append(make([]int, c.none), c.bits...)
		begin := c.begin
		for code, n := range bits {
			wantCode(t, c.kind, code, begin, n, api.OK)
			begin += 1 << n
		}
		wantCode(t, c.kind, len(bits), 0, 0, api.ErrRange)
	}
	for code := range 32 {
		wantCode(t, codes.Offsets, code, 1<<code, code, api.OK)
	}
	wantCode(t, codes.Offsets, 32, 0, 0, api.ErrRange)
}

func TestCodeRefusesCodes(t *testing.T) {
	for _, kind := range kinds() {
		last := codes.Last(kind)
		for _, code := range []int{-1, -2, -last, last - math.MaxInt, math.MinInt, math.MinInt32, last + 1, last + 2, 53, 64, 255, 256, 257, 1 << 16, 1 << 32, 1<<32 + 1, 1<<32 + last, math.MaxInt32, math.MaxInt} {
			if code < 0 || code > last {
				wantCode(t, kind, code, 0, 0, api.ErrRange)
			}
		}
	}
	// The last code of one kind is none of a kind that has fewer.
	wantCode(t, codes.Offsets, 35, 0, 0, api.ErrRange)
	wantCode(t, codes.Offsets, 52, 0, 0, api.ErrRange)
	wantCode(t, codes.Literals, 52, 0, 0, api.ErrRange)
	for code := range 200 {
		for _, kind := range kinds() {
			if code >= len(placesOf(kind)) {
				wantCode(t, kind, code, 0, 0, api.ErrRange)
			}
		}
	}
}

// That there is no such kind is told ahead of that it hasn't the code.
func TestCodeRefusesKinds(t *testing.T) {
	for _, kind := range noKinds() {
		for _, code := range []int{0, 1, 31, 35, 52, -1, 32, 36, 53, 1 << 32, math.MinInt, math.MaxInt} {
			wantCode(t, kind, code, 0, 0, api.ErrArg)
		}
	}
}

func TestLast(t *testing.T) {
	for _, c := range []struct{ kind, want int }{{codes.Literals, 35}, {codes.Offsets, 31}, {codes.Matches, 52}} {
		if got := codes.Last(c.kind); got != c.want {
			t.Errorf("Last of kind %d: %d; want %d", c.kind, got, c.want)
		}
		if _, _, err := codes.Code(c.kind, c.want); err != api.OK {
			t.Errorf("kind %d hasn't its last code %d: error %d", c.kind, c.want, int(err))
		}
	}
	for _, kind := range noKinds() {
		if got := codes.Last(kind); got != -1 {
			t.Errorf("Last of kind %d: %d; want -1", kind, got)
		}
	}
}

// P11.2

// The first and the last value of each code.
func TestOfWhereCodesBeginAndEnd(t *testing.T) {
	for _, kind := range kinds() {
		for c, p := range placesOf(kind) {
			wantOf(t, kind, p.begin, c, 0, api.OK)
			wantOf(t, kind, uint32(p.end()-1), c, uint32(p.end()-1-uint64(p.begin)), api.OK)
		}
	}
}

func TestOfSomeValues(t *testing.T) {
	for _, c := range []struct {
		kind  int
		value uint32
		code  int
		added uint32
	}{
		{codes.Literals, 0, 0, 0}, {codes.Literals, 1, 1, 0}, {codes.Literals, 15, 15, 0}, {codes.Literals, 16, 16, 0}, {codes.Literals, 17, 16, 1},
		{codes.Literals, 18, 17, 0}, {codes.Literals, 63, 24, 15}, {codes.Literals, 64, 25, 0}, {codes.Literals, 127, 25, 63}, {codes.Literals, 128, 26, 0},
		{codes.Literals, 65535, 34, 32767}, {codes.Literals, 65536, 35, 0}, {codes.Literals, 131071, 35, 65535},
		{codes.Offsets, 1, 0, 0}, {codes.Offsets, 2, 1, 0}, {codes.Offsets, 3, 1, 1}, {codes.Offsets, 4, 2, 0}, {codes.Offsets, 9, 3, 1},
		{codes.Offsets, 65535, 15, 32767}, {codes.Offsets, 65536, 16, 0}, {codes.Offsets, 4194307, 22, 3},
		{codes.Offsets, 1<<31 - 1, 30, 1<<30 - 1}, {codes.Offsets, 1 << 31, 31, 0}, {codes.Offsets, 1<<31 + 1, 31, 1}, {codes.Offsets, math.MaxUint32, 31, 1<<31 - 1},
		{codes.Matches, 3, 0, 0}, {codes.Matches, 4, 1, 0}, {codes.Matches, 34, 31, 0}, {codes.Matches, 35, 32, 0}, {codes.Matches, 36, 32, 1},
		{codes.Matches, 37, 33, 0}, {codes.Matches, 130, 42, 31}, {codes.Matches, 131, 43, 0}, {codes.Matches, 258, 43, 127}, {codes.Matches, 259, 44, 0},
		{codes.Matches, 65538, 51, 32767}, {codes.Matches, 65539, 52, 0}, {codes.Matches, 131074, 52, 65535},
	} {
		wantOf(t, c.kind, c.value, c.code, c.added, api.OK)
	}
}

func TestOfRefusesValues(t *testing.T) {
	wantOf(t, codes.Offsets, 0, 0, 0, api.ErrRange)
	for value := range uint32(3) {
		wantOf(t, codes.Matches, value, 0, 0, api.ErrRange)
	}
	for _, kind := range []int{codes.Literals, codes.Matches} {
		most := mostOf(kind)
		for _, value := range []uint32{most + 1, most + 2, most + 3, most + 4, 2*most + 1, 196608, 1 << 18, 1 << 24, 1<<31 - 1, 1 << 31, 1<<31 + 17, math.MaxUint32 - most, math.MaxUint32 - 3, math.MaxUint32 - 1, math.MaxUint32} {
			wantOf(t, kind, value, 0, 0, api.ErrRange)
		}
	}
}

// That there is no such kind is told ahead of that no code has the value.
func TestOfRefusesKinds(t *testing.T) {
	for _, kind := range noKinds() {
		for _, value := range []uint32{0, 1, 2, 3, 17, 131071, 131072, 131074, 131075, 1 << 31, math.MaxUint32} {
			wantOf(t, kind, value, 0, 0, api.ErrArg)
		}
	}
}

// P11.3

// wantJustOne fails, unless just one of the kind's codes has the value, and Of tells it, and what it adds leads back.
func wantJustOne(t *testing.T, kind int, all []place, value uint32) {
	t.Helper()
	found, code := 0, 0
	for c, p := range all {
		if p.has(value) {
			found++
			code = c
		}
	}
	if found != 1 {
		t.Fatalf("kind %d: %d codes have %d", kind, found, value)
	}
	c, added, err := codes.Of(kind, value)
	begin, bits, err2 := codes.Code(kind, c)
	if err != api.OK || err2 != api.OK || c != code || begin != all[code].begin || bits != all[code].bits {
		t.Fatalf("kind %d, value %d: code %d, error %d; it begins at %d, adds %d bits, error %d; want code %d", kind, value, c, int(err), begin, bits, int(err2), code)
	}
	if begin+added != value || uint64(added) >= 1<<bits {
		t.Fatalf("kind %d, value %d: %d added, in %d bits, to %d", kind, value, added, bits, begin)
	}
}

// wantNone fails, if some code has the value.
func wantNone(t *testing.T, kind int, all []place, value uint32) {
	t.Helper()
	for c, p := range all {
		if p.has(value) {
			t.Fatalf("kind %d: code %d has %d", kind, c, value)
		}
	}
	wantOf(t, kind, value, 0, 0, api.ErrRange)
}

// All values of Literals and Matches are here, and the first quarter of a million of Offsets.
func TestEachValueHasOneCode(t *testing.T) {
	for _, kind := range kinds() {
		all := placesOf(kind)
		if uint32(all[len(all)-1].end()-1) != mostOf(kind) {
			t.Fatalf("kind %d ends at %d", kind, all[len(all)-1].end())
		}
		upTo := min(mostOf(kind), 1<<18)
		for value := all[0].begin; value <= upTo; value++ {
			wantJustOne(t, kind, all, value)
		}
		for value := range all[0].begin {
			wantNone(t, kind, all, value)
		}
		if kind == codes.Offsets {
			continue
		}
		for value := upTo + 1; value < 1<<18; value++ {
			wantNone(t, kind, all, value)
		}
	}
}

func TestValuesOfChance(t *testing.T) {
	r := rand.New(rand.NewPCG(11, 1))
	for _, kind := range kinds() {
		all := placesOf(kind)
		for range 20000 {
			value := r.Uint32() >> r.IntN(32)
			if value < all[0].begin || value > mostOf(kind) {
				wantNone(t, kind, all, value)
			} else {
				wantJustOne(t, kind, all, value)
			}
		}
	}
}

// What is added fills a code's bits: all of them noughts is its first value, all of them ones its last, and one more is the next code's.
func TestWhatIsAddedFillsTheBits(t *testing.T) {
	for _, kind := range kinds() {
		for code := range codes.Last(kind) + 1 {
			begin, bits, err := codes.Code(kind, code)
			if err != api.OK {
				t.Fatalf("Code of kind %d, code %d: error %d", kind, code, int(err))
			}
			most := uint32(1)<<bits - 1
			wantOf(t, kind, begin, code, 0, api.OK)
			wantOf(t, kind, begin+most/2, code, most/2, api.OK)
			wantOf(t, kind, begin+most, code, most, api.OK)
			if code < codes.Last(kind) {
				wantOf(t, kind, begin+most+1, code+1, 0, api.OK)
			}
		}
	}
}

// Nothing is kept: what was asked, or refused, ahead changes no answer.
func TestTheSameAgain(t *testing.T) {
	for range 3 {
		for _, kind := range noKinds() {
			wantOf(t, kind, 17, 0, 0, api.ErrArg)
			wantCode(t, kind, 17, 0, 0, api.ErrArg)
			wantOf(t, codes.Literals, 17, 16, 1, api.OK)
			wantOf(t, codes.Matches, 0, 0, 0, api.ErrRange)
			wantOf(t, codes.Matches, 17, 14, 0, api.OK)
			wantCode(t, codes.Offsets, 32, 0, 0, api.ErrRange)
			wantCode(t, codes.Offsets, 17, 131072, 17, api.OK)
		}
	}
}
