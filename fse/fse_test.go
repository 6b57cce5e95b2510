package fse_test

import (
	"fmt"
	"math"
	"math/rand/v2"
	"slices"
	"strconv"
	"strings"
	"testing"

	"lighterman/api"
	"lighterman/bits"
	"lighterman/fse"
	"lighterman/normal"
)

func Example() {
	t := fse.One(7)
	r, _ := bits.NewBackward([]byte{13})
	fmt.Println(fse.Start(t, r), fse.Next(t, 0, r), r.Left())
	// Output:
	// 0 0 3
}

func ExampleBefore() {
	c, _ := normal.Of([]uint32{300, 0, 0, 100}, 5)
	t, err := fse.Build(c)
	fmt.Println(t.Log, len(t.Entries), err == api.OK)

	w := bits.NewWriter()
	s, _ := fse.First(t, 3)
	s, x, n, _ := fse.Before(t, s, 0)
	w.Write(x, n)
	w.Write(uint64(s), t.Log)

	r, _ := bits.NewBackward(w.Closed())
	s = fse.Start(t, r)
	fmt.Println(t.Entries[s].Symbol)
	s = fse.Next(t, s, r)
	fmt.Println(t.Entries[s].Symbol, r.Left())
	// Output:
	// 5 32 true
	// 0
	// 3 0
}

// spelt is entries as a text, a word each: Symbol, Bits, Base.
func spelt(entries []fse.Entry) string {
	var words []string
	for _, e := range entries {
		words = append(words, fmt.Sprintf("%d,%d,%d", e.Symbol, e.Bits, e.Base))
	}
	return strings.Join(words, " ")
}

// oneLine is a text whose words have one blank between them.
func oneLine(text string) string { return strings.Join(strings.Fields(text), " ") }

// only are the entries of a symbol, by rising states.
func only(table fse.Table, symbol byte) []fse.Entry {
	var mine []fse.Entry
	for _, e := range table.Entries {
		if e.Symbol == symbol {
			mine = append(mine, e)
		}
	}
	return mine
}

// statesOf are the states of a symbol, rising.
func statesOf(table fse.Table, symbol byte) []int {
	var states []int
	for state, e := range table.Entries {
		if e.Symbol == symbol {
			states = append(states, state)
		}
	}
	return states
}

func same(a, b fse.Table) bool { return a.Log == b.Log && slices.Equal(a.Entries, b.Entries) }

// copied is a table that shares nothing with another.
func copied(t fse.Table) fse.Table { return fse.Table{Log: t.Log, Entries: slices.Clone(t.Entries)} }

// counts are those of parts.
func counts(log int, parts ...int) normal.Counts { return normal.Counts{Log: log, Part: parts} }

// behind are parts with so many noughts ahead of them.
func behind(noughts int, parts ...int) []int { return append(make([]int, noughts), parts...) }

// repeated is one part, so often.
func repeated(part, times int) []int { return slices.Repeat([]int{part}, times) }

// built is the table of counts that may be.
func built(t *testing.T, c normal.Counts) fse.Table {
	t.Helper()
	table, err := fse.Build(c)
	if err != api.OK {
		t.Fatalf("Build(%v): %d", c, err)
	}
	return table
}

// inWords is what P7.1 says of counts that may be, step by step as it stands there.
func inWords(c normal.Counts) fse.Table {
	states := 1
	for range c.Log {
		states *= 2
	}
	symbol := map[int]int{}
	rare := map[int]bool{}
	highest := states - 1
	for s, part := range c.Part {
		if part == -1 {
			symbol[highest], rare[highest] = s, true
			highest--
		}
	}
	at := 0
	for s, part := range c.Part {
		for i := 0; i < part; i++ {
			for rare[at] {
				at = (at + states/2 + states/8 + 3) % states
			}
			if _, taken := symbol[at]; taken {
				panic("a state twice")
			}
			symbol[at] = s
			at = (at + states/2 + states/8 + 3) % states
		}
	}
	table := fse.Table{Log: c.Log}
	ahead := map[int]int{}
	for state := range states {
		s := symbol[state]
		part := c.Part[s]
		if part == -1 {
			part = 1
		}
		k := ahead[s] + part
		ahead[s]++
		n := c.Log - (len(strconv.FormatInt(int64(k), 2)) - 1)
		table.Entries = append(table.Entries, fse.Entry{Symbol: byte(s), Bits: n, Base: k*int(math.Pow(2, float64(n))) - states})
	}
	return table
}

// wantInWords fails, unless Build tells what P7.1 says.
func wantInWords(t *testing.T, c normal.Counts) {
	t.Helper()
	kept := counts(c.Log, slices.Clone(c.Part)...)
	table, err := fse.Build(c)
	if want := inWords(kept); err != api.OK || !same(table, want) {
		t.Errorf("Build(%v): Log %d, %s, %d; want Log %d, %s", kept, table.Log, spelt(table.Entries), err, want.Log, spelt(want.Entries))
	}
	if c.Log != kept.Log || !slices.Equal(c.Part, kept.Part) {
		t.Errorf("Build changed %v: %v", kept, c)
	}
}

// ofChance are some counts: of ten symbols so many are of part -1, so many of part 0, about.
func ofChance(r *rand.Rand, log, rare, noughts int) normal.Counts {
	left := 1 << log
	greatest := 1 + r.IntN(left)
	var parts []int
	for left > 0 {
		part := 1 + r.IntN(min(greatest, left))
		switch kind := r.IntN(10); {
		case len(parts) == api.MaxSymbol:
			part = left
		case kind < rare:
			part = -1
		case kind < rare+noughts:
			part = 0
		}
		left -= max(part, -part)
		parts = append(parts, part)
	}
	r.Shuffle(len(parts), func(i, j int) { parts[i], parts[j] = parts[j], parts[i] })
	for parts[len(parts)-1] == 0 {
		parts = parts[:len(parts)-1]
	}
	return counts(log, parts...)
}

// literals, offsets and matches are the counts that the format gives; below are their tables, as another program of the format builds them.
var (
	literals = counts(6, 4, 3, 2, 2, 2, 2, 2, 2, 2, 2, 2, 2, 2, 1, 1, 1, 2, 2, 2, 2, 2, 2, 2, 2, 2, 3, 2, 1, 1, 1, 1, 1, -1, -1, -1, -1)
	offsets  = counts(5, 1, 1, 1, 1, 1, 1, 2, 2, 2, 1, 1, 1, 1, 1, 1, 1, 1, 1, 1, 1, 1, 1, 1, 1, -1, -1, -1, -1, -1)
	matches  = counts(6, append(append([]int{1, 4, 3, 2, 2, 2, 2, 2, 2}, repeated(1, 37)...), repeated(-1, 7)...)...)
)

const (
	literalsTable = `
		0,4,0 0,4,16 1,5,32 3,5,0 4,5,0 6,5,0 7,5,0 9,5,0 10,5,0 12,5,0 14,6,0 16,5,0 18,5,0 19,5,0 21,5,0 22,5,0
		24,5,0 25,5,32 26,5,0 27,6,0 29,6,0 31,6,0 0,4,32 1,4,0 2,5,0 4,5,32 5,5,0 7,5,32 8,5,0 10,5,32 11,5,0 13,6,0
		16,5,32 17,5,0 19,5,32 20,5,0 22,5,32 23,5,0 25,4,0 25,4,16 26,5,32 28,6,0 30,6,0 0,4,48 1,4,16 2,5,32 3,5,32 5,5,32
		6,5,32 8,5,32 9,5,32 11,5,32 12,5,32 15,6,0 17,5,32 18,5,32 20,5,32 21,5,32 23,5,32 24,5,32 35,6,0 34,6,0 33,6,0 32,6,0`
	offsetsTable = `
		0,5,0 6,4,0 9,5,0 15,5,0 21,5,0 3,5,0 7,4,0 12,5,0 18,5,0 23,5,0 5,5,0 8,4,0 14,5,0 20,5,0 2,5,0 7,4,16
		11,5,0 17,5,0 22,5,0 4,5,0 8,4,16 13,5,0 19,5,0 1,5,0 6,4,16 10,5,0 16,5,0 28,5,0 27,5,0 26,5,0 25,5,0 24,5,0`
	matchesTable = `
		0,6,0 1,4,0 2,5,32 3,5,0 5,5,0 6,5,0 8,5,0 10,6,0 13,6,0 16,6,0 19,6,0 22,6,0 25,6,0 28,6,0 31,6,0 33,6,0
		35,6,0 37,6,0 39,6,0 41,6,0 43,6,0 45,6,0 1,4,16 2,4,0 3,5,32 4,5,0 6,5,32 7,5,0 9,6,0 12,6,0 15,6,0 18,6,0
		21,6,0 24,6,0 27,6,0 30,6,0 32,6,0 34,6,0 36,6,0 38,6,0 40,6,0 42,6,0 44,6,0 1,4,32 1,4,48 2,4,16 4,5,32 5,5,32
		7,5,32 8,5,32 11,6,0 14,6,0 17,6,0 20,6,0 23,6,0 26,6,0 29,6,0 52,6,0 51,6,0 50,6,0 49,6,0 48,6,0 47,6,0 46,6,0`
)

// few are counts of many kinds, small enough that all of their states and symbols are gone through.
func few() []normal.Counts {
	r := rand.New(rand.NewPCG(7, 1))
	all := []normal.Counts{
		literals, offsets, matches,
		counts(5, 32), counts(5, behind(255, 32)...), counts(8, 256), counts(5, 16, 16), counts(5, 16, 15, -1),
		counts(5, 31, 1), counts(5, 31, -1), counts(5, -1, 31), counts(5, 1, 0, 0, 31), counts(5, 0, -1, 0, 30, 0, 0, -1),
		counts(5, repeated(-1, 32)...), counts(6, repeated(-1, 64)...), counts(8, repeated(-1, 256)...),
		counts(5, append(repeated(-1, 31), 1)...), counts(5, append([]int{2}, repeated(-1, 30)...)...), counts(5, behind(224, repeated(-1, 32)...)...),
		counts(5, repeated(1, 32)...), counts(8, repeated(1, 256)...), counts(9, repeated(2, 256)...),
		counts(7, append(repeated(-1, 60), 3, 0, 5, 0, 0, 60)...), counts(9, append(append([]int{129}, repeated(-1, 254)...), 129)...),
	}
	for i := range 60 {
		all = append(all, ofChance(r, 5+i%4, i%10, i%5))
	}
	return all
}

// P7.1

func TestBuildOfCountsThatMayNotBe(t *testing.T) {
	refused := []normal.Counts{
		{}, {Log: 5}, {Log: 15, Part: []int{}},
		counts(4, 16), counts(4, 8, 8), counts(0, 1), counts(-1, 1), counts(16, 1<<15, 1<<15), counts(16, 1<<16),
		counts(62, 1<<62), counts(64, 1), counts(math.MaxInt, 1), counts(math.MinInt, 1),
		counts(5, 32, 0), counts(5, 16, 16, 0, 0), counts(5, 0), counts(5, 0, 0),
		counts(5, 31), counts(5, 33), counts(5, 16, 15), counts(5, 16, 17), counts(5, 16, 16, -1), counts(5, 30, -1), counts(5, -1),
		counts(5, repeated(-1, 31)...), counts(5, repeated(-1, 33)...), counts(15, 1<<14), counts(15, 1<<15, 1),
		counts(5, -2, 34), counts(5, 34, -2), counts(5, -2, 32), counts(5, math.MinInt, 32), counts(5, math.MaxInt, math.MaxInt, 34),
		counts(8, append(repeated(1, 256), -1)...), counts(9, append(repeated(1, 256), 256)...), counts(5, behind(256, 32)...),
	}
	for _, c := range refused {
		if normal.Check(c, 15) == api.OK {
			t.Errorf("Check(%v) takes it", c)
		}
		if table, err := fse.Build(c); err != api.ErrArg || table.Log != 0 || len(table.Entries) != 0 {
			t.Errorf("Build(%v): %v, %d", c, table, err)
		}
	}
}

func TestBuildOfEachLog(t *testing.T) {
	for log := 5; log <= 15; log++ {
		half := 1 << (log - 1)
		table := built(t, counts(log, half, half))
		if table.Log != log || len(table.Entries) != 2*half {
			t.Errorf("Build of Log %d: Log %d, %d states", log, table.Log, len(table.Entries))
		}
		wantInWords(t, counts(log, half, half))
		wantInWords(t, counts(log, half, half-1, -1))
		wantInWords(t, counts(log, 1, 0, 2*half-3, -1, 0, -1))
	}
}

func TestBuildOfGivenCounts(t *testing.T) {
	for _, g := range []struct {
		c    normal.Counts
		want string
	}{{literals, literalsTable}, {offsets, offsetsTable}, {matches, matchesTable}} {
		table := built(t, g.c)
		if got := spelt(table.Entries); table.Log != g.c.Log || got != oneLine(g.want) {
			t.Errorf("Build(%v): Log %d, %s", g.c, table.Log, got)
		}
	}
}

func TestBuildOfThreeSymbols(t *testing.T) {
	table := built(t, counts(5, 16, 15, -1))
	want := `
		0,1,0 0,1,2 0,1,4 1,2,28 1,1,0 0,1,6 0,1,8 1,1,2 1,1,4 1,1,6 0,1,10 0,1,12 1,1,8 1,1,10 0,1,14 0,1,16
		1,1,12 1,1,14 1,1,16 0,1,18 0,1,20 1,1,18 1,1,20 0,1,22 0,1,24 0,1,26 1,1,22 1,1,24 0,1,28 0,1,30 1,1,26 2,5,0`
	if got := spelt(table.Entries); got != oneLine(want) {
		t.Errorf("%s", got)
	}
}

func TestBuildOfOneSymbolThatHasAllParts(t *testing.T) {
	for log := 5; log <= 15; log++ {
		for _, symbol := range []int{0, 1, 128, 255} {
			table := built(t, counts(log, behind(symbol, 1<<log)...))
			if table.Log != log || len(table.Entries) != 1<<log {
				t.Fatalf("Log %d: %d, %d states", log, table.Log, len(table.Entries))
			}
			for state, e := range table.Entries {
				if e != (fse.Entry{Symbol: byte(symbol), Base: state}) {
					t.Fatalf("Log %d, symbol %d, state %d: %v", log, symbol, state, e)
				}
			}
		}
	}
}

func TestBuildOfRareSymbolsAlone(t *testing.T) {
	for log := 5; log <= 8; log++ {
		size := 1 << log
		for _, noughts := range []int{0, 256 - size} {
			table := built(t, counts(log, behind(noughts, repeated(-1, size)...)...))
			for state, e := range table.Entries {
				if e != (fse.Entry{Symbol: byte(noughts + size - 1 - state), Bits: log}) {
					t.Errorf("Log %d, state %d: %v", log, state, e)
				}
			}
		}
	}
}

func TestBuildOfRareSymbolsAmongOthers(t *testing.T) {
	table := built(t, counts(5, 0, -1, 20, -1, 0, 0, 9, -1))
	for state, symbol := range map[int]byte{31: 1, 30: 3, 29: 7} {
		if e := table.Entries[state]; e != (fse.Entry{Symbol: symbol, Bits: 5}) {
			t.Errorf("state %d: %v", state, e)
		}
	}
	if n, m := len(only(table, 2)), len(only(table, 6)); n != 20 || m != 9 {
		t.Errorf("states of 2 and 6: %d, %d", n, m)
	}
	table = built(t, counts(15, append(append([]int{1}, repeated(-1, 254)...), 1<<15-255)...))
	for i := range 254 {
		if e := table.Entries[1<<15-1-i]; e != (fse.Entry{Symbol: byte(1 + i), Bits: 15}) {
			t.Errorf("state %d: %v", 1<<15-1-i, e)
		}
	}
}

func TestBuildWalks(t *testing.T) {
	walk := []byte{0, 23, 14, 5, 28, 19, 10, 1, 24, 15, 6, 29, 20, 11, 2, 25, 16, 7, 30, 21, 12, 3, 26, 17, 8, 31, 22, 13, 4, 27, 18, 9}
	table := built(t, counts(5, repeated(1, 32)...))
	for symbol, state := range walk {
		if e := table.Entries[state]; e != (fse.Entry{Symbol: byte(symbol), Bits: 5}) {
			t.Errorf("state %d: %v", state, e)
		}
	}
	// What the walk meets that has a symbol already is left out of it.
	for rare := 1; rare <= 32; rare++ {
		table := built(t, counts(5, append(repeated(-1, rare), repeated(1, 32-rare)...)...))
		symbol := byte(rare)
		for _, state := range walk {
			want := byte(31 - state)
			if int(state) < 32-rare {
				want = symbol
				symbol++
			}
			if e := table.Entries[state]; e != (fse.Entry{Symbol: want, Bits: 5}) {
				t.Errorf("%d of part -1, state %d: %v", rare, state, e)
			}
		}
	}
}

func TestBuildOfNoughtsInBetween(t *testing.T) {
	dense := built(t, counts(6, 10, 20, -1, 33))
	for _, c := range []struct {
		parts   []int
		symbols []byte
	}{
		{[]int{10, 0, 20, -1, 0, 0, 0, 33}, []byte{0, 2, 3, 7}},
		{append(behind(250, 10, 20), behind(2, -1, 33)...), []byte{250, 251, 254, 255}},
		{append([]int{10}, behind(252, 20, -1, 33)...), []byte{0, 253, 254, 255}},
	} {
		table := built(t, counts(6, c.parts...))
		for state, e := range dense.Entries {
			e.Symbol = c.symbols[e.Symbol]
			if table.Entries[state] != e {
				t.Errorf("%v, state %d: %v, want %v", c.parts, state, table.Entries[state], e)
			}
		}
	}
}

func TestBuildTellsBitsAndBase(t *testing.T) {
	for _, c := range []struct {
		log, part int
		want      string
	}{
		{5, -1, "0,5,0"},
		{5, 1, "0,5,0"},
		{5, 2, "0,4,0 0,4,16"},
		{5, 3, "0,4,16 0,3,0 0,3,8"},
		{5, 4, "0,3,0 0,3,8 0,3,16 0,3,24"},
		{5, 5, "0,3,8 0,3,16 0,3,24 0,2,0 0,2,4"},
		{5, 7, "0,3,24 0,2,0 0,2,4 0,2,8 0,2,12 0,2,16 0,2,20"},
		{5, 8, "0,2,0 0,2,4 0,2,8 0,2,12 0,2,16 0,2,20 0,2,24 0,2,28"},
		{5, 9, "0,2,4 0,2,8 0,2,12 0,2,16 0,2,20 0,2,24 0,2,28 0,1,0 0,1,2"},
		{5, 15, "0,2,28 0,1,0 0,1,2 0,1,4 0,1,6 0,1,8 0,1,10 0,1,12 0,1,14 0,1,16 0,1,18 0,1,20 0,1,22 0,1,24 0,1,26"},
		{5, 16, "0,1,0 0,1,2 0,1,4 0,1,6 0,1,8 0,1,10 0,1,12 0,1,14 0,1,16 0,1,18 0,1,20 0,1,22 0,1,24 0,1,26 0,1,28 0,1,30"},
		{5, 17, "0,1,2 0,1,4 0,1,6 0,1,8 0,1,10 0,1,12 0,1,14 0,1,16 0,1,18 0,1,20 0,1,22 0,1,24 0,1,26 0,1,28 0,1,30 0,0,0 0,0,1"},
		{9, 3, "0,8,256 0,7,0 0,7,128"},
		{15, -1, "0,15,0"},
		{15, 1, "0,15,0"},
		{15, 2, "0,14,0 0,14,16384"},
		{15, 3, "0,14,16384 0,13,0 0,13,8192"},
	} {
		table := built(t, counts(c.log, c.part, 1<<c.log-max(c.part, -c.part)))
		if got := spelt(only(table, 0)); got != c.want {
			t.Errorf("Log %d, part %d: %s, want %s", c.log, c.part, got, c.want)
		}
	}
}

func TestBuildTellsBitsAndBaseNearPowers(t *testing.T) {
	for log := 5; log <= 15; log++ {
		for power := 1; power < log; power++ {
			part := 1 << power
			first := built(t, counts(log, part, 1<<log-part))
			if e := only(first, 0); e[0].Bits != log-power || e[0].Base != 0 || e[part-1].Bits != log-power || e[part-1].Base != 1<<log-1<<(log-power) {
				t.Errorf("Log %d, part %d: %v, %v", log, part, e[0], e[part-1])
			}
			fewer := built(t, counts(log, part-1, 1<<log-part+1))
			if e := only(fewer, 0); e[0].Bits != log-power+1 || e[0].Base != 1<<log-1<<(log-power+1) || len(e) > 1 && (e[1].Bits != log-power || e[1].Base != 0) {
				t.Errorf("Log %d, part %d: %v", log, part-1, e)
			}
			more := built(t, counts(log, part+1, 1<<log-part-1))
			if e := only(more, 0); e[0].Bits != log-power || e[0].Base != 1<<(log-power) || e[part].Bits != log-power-1 || e[part].Base != 1<<(log-power-1) {
				t.Errorf("Log %d, part %d: %v, %v", log, part+1, e[0], e[part])
			}
		}
	}
}

func TestBuildOfManyKinds(t *testing.T) {
	for _, c := range few() {
		wantInWords(t, c)
	}
	r := rand.New(rand.NewPCG(7, 2))
	for i := range 2000 {
		wantInWords(t, ofChance(r, 5+r.IntN(6), i%11, i%7))
	}
	for i := range 60 {
		wantInWords(t, ofChance(r, 11+i%5, i%11, i%7))
	}
}

func TestBuildOfDescriptions(t *testing.T) {
	c, err := normal.Of([]uint32{300, 7, 0, 1, 1000, 0, 4}, 9)
	b, err2 := normal.Write(c)
	read, _, err3 := normal.Read(b, 9, 256)
	if err != api.OK || err2 != api.OK || err3 != api.OK {
		t.Fatal(err, err2, err3)
	}
	if table := built(t, read); !same(table, inWords(c)) {
		t.Errorf("%v: %s", c, spelt(table.Entries))
	}
}

func TestBuildAnswersNewMemory(t *testing.T) {
	c := counts(6, 10, 20, -1, 33)
	one, other := built(t, c), built(t, c)
	want := inWords(c)
	clear(one.Entries)
	_ = append(one.Entries[:3], fse.Entry{Symbol: 9})
	c.Part[0] = 11
	if !same(other, want) {
		t.Errorf("the other one: %s", spelt(other.Entries))
	}
	c.Part[0] = 10
	if again := built(t, c); !same(again, want) {
		t.Errorf("again: %s", spelt(again.Entries))
	}
}

// P7.2

// reader reads digits from the back: the last one ahead of all others.
func reader(t *testing.T, digits string) *bits.Backward {
	t.Helper()
	w := bits.NewWriter()
	for _, digit := range digits {
		w.Write(uint64(digit-'0'), 1)
	}
	r, err := bits.NewBackward(w.Closed())
	if err != api.OK || r.Left() != len(digits) {
		t.Fatalf("a reader of %s: %d", digits, err)
	}
	return r
}

// front is a number in so many digits, the lowest first, so that a reader tells it.
func front(x, n int) string {
	digits := []byte(fmt.Sprintf("%0*b", n, x))[:n]
	slices.Reverse(digits)
	return string(digits)
}

// wantStart fails, unless Start tells this state, and leaves so many bits.
func wantStart(t *testing.T, table fse.Table, r *bits.Backward, state, left int) {
	t.Helper()
	if got := fse.Start(table, r); got != state || r.Left() != left {
		t.Errorf("Start of Log %d, Left: %d, %d; want %d, %d", table.Log, got, r.Left(), state, left)
	}
}

// wantNext fails, unless Next of a state tells this one, and leaves so many bits.
func wantNext(t *testing.T, table fse.Table, at int, r *bits.Backward, state, left int) {
	t.Helper()
	if got := fse.Next(table, at, r); got != state || r.Left() != left {
		t.Errorf("Next of %d (Log %d), Left: %d, %d; want %d, %d", at, table.Log, got, r.Left(), state, left)
	}
}

func TestOneOfEachSymbol(t *testing.T) {
	for symbol := range 256 {
		table := fse.One(byte(symbol))
		if !same(table, fse.Table{Entries: []fse.Entry{{Symbol: byte(symbol)}}}) {
			t.Errorf("One(%d): %v", symbol, table)
		}
		for _, digits := range []string{"", "1", "1011011101"} {
			r := reader(t, digits)
			wantStart(t, table, r, 0, len(digits))
			wantNext(t, table, 0, r, 0, len(digits))
			wantNext(t, table, 1, r, 0, len(digits))
			wantNext(t, table, -1, r, 0, len(digits))
			wantNext(t, table, 0, r, 0, len(digits))
		}
	}
}

func TestOneAnswersNewMemory(t *testing.T) {
	one, other := fse.One(7), fse.One(7)
	one.Entries[0] = fse.Entry{Symbol: 1, Bits: 2, Base: 3}
	if other.Entries[0] != (fse.Entry{Symbol: 7}) || fse.One(7).Entries[0] != (fse.Entry{Symbol: 7}) {
		t.Errorf("%v, %v", other, fse.One(7))
	}
}

func TestStartReadsBitsOfLog(t *testing.T) {
	for log := 5; log <= 15; log++ {
		size := 1 << log
		table := built(t, counts(log, size/2, size/2))
		for _, state := range []int{0, 1, 2, 13, size/2 - 1, size / 2, size - 2, size - 1} {
			r := reader(t, "1101"+front(state, log))
			wantStart(t, table, r, state, 4)
			if r.Read(4) != 0b1011 {
				t.Errorf("Log %d: other bits behind", log)
			}
		}
	}
	table := built(t, counts(5, 16, 15, -1))
	for state := range 32 {
		wantStart(t, table, reader(t, front(state, 5)), state, 0)
	}
}

func TestStartWhereBitsLack(t *testing.T) {
	table := built(t, counts(5, 16, 15, -1))
	for _, c := range []struct {
		digits string
		state  int
	}{{"", 0}, {"1", 16}, {"01", 16}, {"10", 8}, {"11", 24}, {"101", 20}, {"1011", 0b11010}, {"1111", 30}} {
		r := reader(t, c.digits)
		wantStart(t, table, r, c.state, len(c.digits)-5)
		wantStart(t, table, r, 0, len(c.digits)-10)
	}
	r := reader(t, "1")
	wantStart(t, built(t, counts(15, 1<<14, 1<<14)), r, 1<<14, -14)
	wantStart(t, fse.One(3), r, 0, -14)
}

func TestNextOfEachState(t *testing.T) {
	for _, c := range few() {
		table := built(t, c)
		for state, e := range table.Entries {
			for x := range min(1<<e.Bits, 1<<5) {
				x = 1<<e.Bits - 1 - x
				r := reader(t, "110"+front(x, e.Bits))
				wantNext(t, table, state, r, e.Base+x, 3)
				wantNext(t, table, state, reader(t, front(0, e.Bits)), e.Base, 0)
			}
		}
	}
}

func TestNextWrittenOut(t *testing.T) {
	table := built(t, counts(5, 16, 15, -1))
	r := reader(t, "1"+"01101"+"1"+"10"+"0"+front(29, 5))
	wantStart(t, table, r, 29, 10)
	wantNext(t, table, 29, r, 30, 9)
	wantNext(t, table, 3, r, 29, 7)
	wantNext(t, table, 30, r, 27, 6)
	wantNext(t, table, 31, r, 0b10110, 1)
	wantNext(t, table, 22, r, 21, 0)
}

func TestNextWhereBitsLack(t *testing.T) {
	table := built(t, counts(5, 16, 15, -1))
	wantNext(t, table, 31, reader(t, "1011"), 0b11010, -1)
	wantNext(t, table, 31, reader(t, "01"), 0b10000, -3)
	wantNext(t, table, 31, reader(t, ""), 0, -5)
	wantNext(t, table, 3, reader(t, "1"), 28+0b10, -1)
	wantNext(t, table, 3, reader(t, ""), 28, -2)
	wantNext(t, table, 29, reader(t, ""), 30, -1)
	r := reader(t, "")
	wantNext(t, table, 29, r, 30, -1)
	wantNext(t, table, 31, r, 0, -6)
	alone := built(t, counts(5, 32))
	wantNext(t, alone, 17, r, 17, -6)
	great := built(t, counts(15, 1, 1<<15-1))
	state, _ := fse.First(great, 0)
	wantNext(t, great, state, reader(t, "111"), 0b111<<12, -12)
}

func TestNextOfNoSuchState(t *testing.T) {
	for _, c := range few() {
		table := built(t, c)
		n := len(table.Entries)
		for _, state := range []int{-1, -2, -n, math.MinInt, n, n + 1, 2 * n, math.MaxInt} {
			wantNext(t, table, state, reader(t, "10110111"), 0, 8)
		}
		last := table.Entries[n-1]
		wantNext(t, table, n-1, reader(t, front(1<<last.Bits-1, last.Bits)), last.Base+1<<last.Bits-1, 0)
	}
}

func TestTableWithoutStates(t *testing.T) {
	r := reader(t, "1011")
	for _, entries := range [][]fse.Entry{nil, {}} {
		none := fse.Table{Entries: entries}
		wantStart(t, none, r, 0, 4)
		for _, state := range []int{0, 1, -1} {
			wantNext(t, none, state, r, 0, 4)
			wantBefore(t, none, state, 0, 0, 0, 0, api.ErrArg)
		}
		wantFirst(t, none, 0, 0, api.ErrNone)
	}
}

func TestNilBackward(t *testing.T) {
	for _, table := range []fse.Table{{}, fse.One(7), built(t, counts(5, 16, 15, -1)), built(t, counts(15, 1<<14, 1<<14))} {
		fse.Start(table, nil)
		for state := -1; state <= len(table.Entries); state++ {
			fse.Next(table, state, nil)
		}
	}
}

// Of tables that are made by hand some answer is promised, and that there is one.
func TestTablesMadeByHand(t *testing.T) {
	numbers := []int{0, 1, -1, 5, 31, 56, 57, 63, 64, 65, math.MaxInt, math.MinInt}
	for _, x := range numbers {
		for _, y := range numbers {
			table := fse.Table{Log: x, Entries: []fse.Entry{{Symbol: 1, Bits: x, Base: y}, {Symbol: 1, Bits: y, Base: x}, {Symbol: 2}}}
			kept := copied(table)
			fse.Start(table, reader(t, "1011"))
			for _, state := range []int{-1, 0, 1, 2, 3, math.MinInt, math.MaxInt} {
				fse.Next(table, state, reader(t, "1011"))
				for symbol := range byte(4) {
					fse.Before(table, state, symbol)
					fse.First(table, symbol)
				}
			}
			if !same(table, kept) {
				t.Errorf("%v became %v", kept, table)
			}
		}
	}
}

// P7.3

func wantBefore(t *testing.T, table fse.Table, at int, symbol byte, state int, x uint64, n int, err api.Errno) {
	t.Helper()
	gotState, gotX, gotN, gotErr := fse.Before(table, at, symbol)
	if gotState != state || gotX != x || gotN != n || gotErr != err {
		t.Errorf("Before(%d, %d) of Log %d: %d, %d, %d, %d; want %d, %d, %d, %d", at, symbol, table.Log, gotState, gotX, gotN, gotErr, state, x, n, err)
	}
}

func wantFirst(t *testing.T, table fse.Table, symbol byte, state int, err api.Errno) {
	t.Helper()
	if got, gotErr := fse.First(table, symbol); got != state || gotErr != err {
		t.Errorf("First(%d) of Log %d: %d, %d; want %d, %d", symbol, table.Log, got, gotErr, state, err)
	}
}

func TestBeforeWrittenOut(t *testing.T) {
	table := built(t, counts(5, 16, 15, -1))
	wantBefore(t, table, 0, 0, 0, 0, 1, api.OK)
	wantBefore(t, table, 1, 0, 0, 1, 1, api.OK)
	wantBefore(t, table, 2, 0, 1, 0, 1, api.OK)
	wantBefore(t, table, 31, 0, 29, 1, 1, api.OK)
	wantBefore(t, table, 0, 1, 4, 0, 1, api.OK)
	wantBefore(t, table, 27, 1, 30, 1, 1, api.OK)
	wantBefore(t, table, 28, 1, 3, 0, 2, api.OK)
	wantBefore(t, table, 31, 1, 3, 3, 2, api.OK)
	wantBefore(t, table, 0, 2, 31, 0, 5, api.OK)
	wantBefore(t, table, 31, 2, 31, 31, 5, api.OK)
	wantBefore(t, fse.One(7), 0, 7, 0, 0, 0, api.OK)
	wantBefore(t, built(t, counts(5, 32)), 13, 0, 13, 0, 0, api.OK)
	wantBefore(t, built(t, counts(15, -1, 1<<15-1)), 1<<15-1, 0, 1<<15-1, 1<<15-1, 15, api.OK)
}

func TestBeforeOfNoSuchState(t *testing.T) {
	for _, c := range few() {
		table := built(t, c)
		n := len(table.Entries)
		for _, state := range []int{-1, -n, math.MinInt, n, n + 1, math.MaxInt} {
			for _, symbol := range []byte{0, table.Entries[0].Symbol, table.Entries[n-1].Symbol, 254, 255} {
				wantBefore(t, table, state, symbol, 0, 0, 0, api.ErrArg)
			}
		}
	}
	for _, state := range []int{-1, 1, 2} {
		wantBefore(t, fse.One(7), state, 7, 0, 0, 0, api.ErrArg)
		wantBefore(t, fse.One(7), state, 8, 0, 0, 0, api.ErrArg)
	}
}

func TestSymbolThatHasNoState(t *testing.T) {
	table := built(t, counts(5, 0, 16, 0, 0, 15, -1))
	for _, symbol := range []byte{0, 2, 3, 6, 7, 128, 254, 255} {
		wantFirst(t, table, symbol, 0, api.ErrNone)
		for state := range table.Entries {
			wantBefore(t, table, state, symbol, 0, 0, 0, api.ErrNone)
		}
	}
	last := built(t, counts(5, behind(255, 32)...))
	wantFirst(t, last, 255, 0, api.OK)
	for symbol := range 256 {
		if one := fse.One(byte(symbol)); symbol < 255 {
			wantFirst(t, last, byte(symbol), 0, api.ErrNone)
			wantBefore(t, last, 31, byte(symbol), 0, 0, 0, api.ErrNone)
			wantFirst(t, one, byte(symbol)+1, 0, api.ErrNone)
			wantBefore(t, one, 0, byte(symbol)+1, 0, 0, 0, api.ErrNone)
		}
	}
}

func TestFirstIsTheLowestState(t *testing.T) {
	table := built(t, counts(5, 16, 15, -1))
	wantFirst(t, table, 0, 0, api.OK)
	wantFirst(t, table, 1, 3, api.OK)
	wantFirst(t, table, 2, 31, api.OK)
	wantFirst(t, fse.One(7), 7, 0, api.OK)
	for _, c := range few() {
		table := built(t, c)
		for symbol := range 256 {
			states := statesOf(inWords(c), byte(symbol))
			if len(states) == 0 {
				wantFirst(t, table, byte(symbol), 0, api.ErrNone)
				continue
			}
			wantFirst(t, table, byte(symbol), states[0], api.OK)
		}
	}
}

func TestCallsChangeNoTable(t *testing.T) {
	table := built(t, literals)
	kept := copied(table)
	fse.Start(table, reader(t, "1011"))
	for state := range table.Entries {
		fse.Next(table, state, reader(t, "1011"))
		fse.Before(table, state, 5)
	}
	fse.First(table, 35)
	if !same(table, kept) {
		t.Errorf("%s became %s", spelt(kept.Entries), spelt(table.Entries))
	}
}

// P7.4

// wantReachedOnce fails, unless each state is reached from just one state of each symbol that has a part.
func wantReachedOnce(t *testing.T, table fse.Table, parts []int) {
	t.Helper()
	for symbol, part := range parts {
		mine := only(table, byte(symbol))
		if len(mine) != max(part, -part) {
			t.Errorf("parts %v, symbol %d: %d states", parts, symbol, len(mine))
		}
		times := make([]int, len(table.Entries))
		for _, e := range mine {
			for x := range 1 << e.Bits {
				times[e.Base+x]++
			}
		}
		if part != 0 && (slices.Min(times) != 1 || slices.Max(times) != 1) {
			t.Errorf("parts %v, symbol %d: states are reached so often: %v", parts, symbol, times)
		}
	}
}

func TestEachStateIsReachedFromOneOfEachSymbol(t *testing.T) {
	for _, c := range few() {
		wantReachedOnce(t, built(t, c), c.Part)
	}
	r := rand.New(rand.NewPCG(7, 3))
	for log := 9; log <= 15; log++ {
		for i := range 3 {
			c := ofChance(r, log, 3*i, i)
			wantReachedOnce(t, built(t, c), c.Part)
		}
	}
}

func TestBeforeAndNextAreTheSameStep(t *testing.T) {
	for _, c := range few() {
		table := built(t, c)
		for symbol, part := range c.Part {
			for state := range table.Entries {
				if part == 0 {
					wantBefore(t, table, state, byte(symbol), 0, 0, 0, api.ErrNone)
					continue
				}
				before, x, n, err := fse.Before(table, state, byte(symbol))
				if err != api.OK || before < 0 || before >= len(table.Entries) || table.Entries[before].Symbol != byte(symbol) || table.Entries[before].Bits != n || x>>n != 0 {
					t.Fatalf("%v: Before(%d, %d): %d, %d, %d, %d", c, state, symbol, before, x, n, err)
				}
				wantNext(t, table, before, reader(t, front(int(x), n)), state, 0)
			}
		}
	}
}

// written are the bytes of a row of symbols, written backwards from a state of the last one on.
func written(t *testing.T, table fse.Table, row []byte, state int) []byte {
	t.Helper()
	w := bits.NewWriter()
	for i := len(row) - 2; i >= 0; i-- {
		before, x, n, err := fse.Before(table, state, row[i])
		if err != api.OK {
			t.Fatalf("Before(%d, %d): %d", state, row[i], err)
		}
		w.Write(x, n)
		state = before
	}
	w.Write(uint64(state), table.Log)
	return w.Closed()
}

// wantRead fails, unless the row is read from bytes, with no bit left.
func wantRead(t *testing.T, table fse.Table, row, b []byte) {
	t.Helper()
	r, err := bits.NewBackward(b)
	if err != api.OK {
		t.Fatalf("NewBackward: %d", err)
	}
	state := fse.Start(table, r)
	for i, symbol := range row {
		if i > 0 {
			state = fse.Next(table, state, r)
		}
		if state >= len(table.Entries) || table.Entries[state].Symbol != symbol {
			t.Fatalf("symbol %d of %v: state %d of %s", i, row, state, spelt(table.Entries))
		}
	}
	if r.Left() != 0 {
		t.Errorf("%d bits left of a row of %d", r.Left(), len(row))
	}
}

// wantRow fails, unless a row of symbols is read as it is written, from whatever state of the last one.
func wantRow(t *testing.T, table fse.Table, row []byte) {
	t.Helper()
	last := row[len(row)-1]
	first, err := fse.First(table, last)
	if err != api.OK {
		t.Fatalf("First(%d): %d", last, err)
	}
	states := statesOf(table, last)
	for _, state := range []int{first, states[len(states)/2], states[len(states)-1]} {
		wantRead(t, table, row, written(t, table, row, state))
	}
}

// drawn is a row of symbols, each about as often as it has states.
func drawn(r *rand.Rand, table fse.Table, n int) []byte {
	row := make([]byte, n)
	for i := range row {
		row[i] = table.Entries[r.IntN(len(table.Entries))].Symbol
	}
	return row
}

func TestRowsAreReadAsTheyAreWritten(t *testing.T) {
	r := rand.New(rand.NewPCG(7, 4))
	for _, c := range few() {
		table := built(t, c)
		var there []byte
		for symbol, part := range c.Part {
			if part != 0 {
				there = append(there, byte(symbol))
				wantRow(t, table, []byte{byte(symbol)})
				wantRow(t, table, slices.Repeat([]byte{byte(symbol)}, 5))
			}
		}
		wantRow(t, table, there)
		slices.Reverse(there)
		wantRow(t, table, there)
		for _, n := range []int{1, 2, 3, 100, 1000} {
			wantRow(t, table, drawn(r, table, n))
		}
	}
}

func TestRowsOfGreatTables(t *testing.T) {
	r := rand.New(rand.NewPCG(7, 5))
	for log := 9; log <= 15; log++ {
		for i := range 4 {
			table := built(t, ofChance(r, log, 2*i, i))
			wantRow(t, table, drawn(r, table, 300))
		}
	}
}

func TestRowsOfOneSymbolAloneHaveNoBits(t *testing.T) {
	for symbol := range 256 {
		row := slices.Repeat([]byte{byte(symbol)}, 20)
		table := fse.One(byte(symbol))
		wantRow(t, table, row)
		if b := written(t, table, row, 0); !slices.Equal(b, []byte{1}) {
			t.Errorf("20 times %d: %v", symbol, b)
		}
	}
}

func TestRowWrittenOut(t *testing.T) {
	table := built(t, counts(5, 16, 15, -1))
	row := []byte{0, 1, 1, 2, 0, 1}
	// From state 3 back: 1 in 1 bit, 1 in 5, 3 in 2, 1 in 1, 1 in 1, and where it starts, 5, in 5.
	b := written(t, table, row, 3)
	if !slices.Equal(b, []byte{0b11_00001_1, 0b1_00101_1_1}) {
		t.Errorf("written: %08b", b)
	}
	r, _ := bits.NewBackward(b)
	wantStart(t, table, r, 5, 10)
	wantNext(t, table, 5, r, 7, 9)
	wantNext(t, table, 7, r, 3, 8)
	wantNext(t, table, 3, r, 31, 6)
	wantNext(t, table, 31, r, 1, 1)
	wantNext(t, table, 1, r, 3, 0)
}
