package tables_test

import (
	"bytes"
	"fmt"
	"math"
	"math/rand/v2"
	"slices"
	"strings"
	"testing"

	"lighterman/api"
	"lighterman/bits"
	"lighterman/codes"
	"lighterman/fse"
	"lighterman/normal"
	"lighterman/tables"
)

const mostWritten = 131072

func ExampleDefault() {
	table, err := tables.Default(codes.Offsets)
	fmt.Println(table.Log, len(table.Entries), table.Entries[1], err == api.OK)
	// Output: 5 32 {6 4 0} true
}

func ExampleMost() {
	fmt.Println(tables.Most(codes.Literals), tables.Most(codes.Offsets), tables.Most(codes.Matches))
	// Output: 9 8 9
}

func ExampleRead() {
	table, used, err := tables.Read(codes.Literals, tables.Single, []byte{7}, fse.Table{})
	fmt.Println(table.Log, table.Entries, used, err == api.OK)
	table, used, err = tables.Read(codes.Literals, tables.Told, []byte{16, 63, 9, 9}, table) // of 32 states half are of 0, half of 1
	fmt.Println(table.Log, len(table.Entries), used, err == api.OK)
	table, used, err = tables.Read(codes.Literals, tables.Again, nil, table)
	fmt.Println(table.Log, len(table.Entries), used, err == api.OK)
	// Output:
	// 0 [{7 0 0}] 1 true
	// 5 32 2 true
	// 5 32 0 true
}

func ExampleWrite() {
	table, mode, b, err := tables.Write(codes.Matches, []int{5, 5, 5})
	fmt.Println(table.Entries, mode == tables.Single, b, err == api.OK)
	// Output: [{5 0 0}] true [5] true
}

func TestModes(t *testing.T) {
	if tables.Given != 0 || tables.Single != 1 || tables.Told != 2 || tables.Again != 3 {
		t.Error(tables.Given, tables.Single, tables.Told, tables.Again)
	}
	// They are of no type of their own, so that a byte may be held against them, too.
	var b byte = tables.Again
	if b != 3 {
		t.Error(b)
	}
}

// The tables of the given counts, state by state, as another program of the format has them: code, bits, base.
const (
	literalsTable = `
		0 4 0, 0 4 16, 1 5 32, 3 5 0, 4 5 0, 6 5 0, 7 5 0, 9 5 0,
		10 5 0, 12 5 0, 14 6 0, 16 5 0, 18 5 0, 19 5 0, 21 5 0, 22 5 0,
		24 5 0, 25 5 32, 26 5 0, 27 6 0, 29 6 0, 31 6 0, 0 4 32, 1 4 0,
		2 5 0, 4 5 32, 5 5 0, 7 5 32, 8 5 0, 10 5 32, 11 5 0, 13 6 0,
		16 5 32, 17 5 0, 19 5 32, 20 5 0, 22 5 32, 23 5 0, 25 4 0, 25 4 16,
		26 5 32, 28 6 0, 30 6 0, 0 4 48, 1 4 16, 2 5 32, 3 5 32, 5 5 32,
		6 5 32, 8 5 32, 9 5 32, 11 5 32, 12 5 32, 15 6 0, 17 5 32, 18 5 32,
		20 5 32, 21 5 32, 23 5 32, 24 5 32, 35 6 0, 34 6 0, 33 6 0, 32 6 0`
	offsetsTable = `
		0 5 0, 6 4 0, 9 5 0, 15 5 0, 21 5 0, 3 5 0, 7 4 0, 12 5 0,
		18 5 0, 23 5 0, 5 5 0, 8 4 0, 14 5 0, 20 5 0, 2 5 0, 7 4 16,
		11 5 0, 17 5 0, 22 5 0, 4 5 0, 8 4 16, 13 5 0, 19 5 0, 1 5 0,
		6 4 16, 10 5 0, 16 5 0, 28 5 0, 27 5 0, 26 5 0, 25 5 0, 24 5 0`
	matchesTable = `
		0 6 0, 1 4 0, 2 5 32, 3 5 0, 5 5 0, 6 5 0, 8 5 0, 10 6 0,
		13 6 0, 16 6 0, 19 6 0, 22 6 0, 25 6 0, 28 6 0, 31 6 0, 33 6 0,
		35 6 0, 37 6 0, 39 6 0, 41 6 0, 43 6 0, 45 6 0, 1 4 16, 2 4 0,
		3 5 32, 4 5 0, 6 5 32, 7 5 0, 9 6 0, 12 6 0, 15 6 0, 18 6 0,
		21 6 0, 24 6 0, 27 6 0, 30 6 0, 32 6 0, 34 6 0, 36 6 0, 38 6 0,
		40 6 0, 42 6 0, 44 6 0, 1 4 32, 1 4 48, 2 4 16, 4 5 32, 5 5 32,
		7 5 32, 8 5 32, 11 6 0, 14 6 0, 17 6 0, 20 6 0, 23 6 0, 26 6 0,
		29 6 0, 52 6 0, 51 6 0, 50 6 0, 49 6 0, 48 6 0, 47 6 0, 46 6 0`
)

// kinds are those that there are.
func kinds() []int { return []int{codes.Literals, codes.Offsets, codes.Matches} }

// modes are those that there are.
func modes() []int { return []int{tables.Given, tables.Single, tables.Told, tables.Again} }

// noKinds are some that there aren't; those of 2^32 and more would be kinds in 32 bits, or in 8.
func noKinds() []int {
	return []int{-1, -2, -3, math.MinInt, 3, 4, 31, 52, 256, 257, 258, 1 << 32, 1<<32 + 1, 1<<32 + 2, math.MinInt32, math.MaxInt32, math.MaxInt}
}

// noModes are some that there aren't, likewise.
func noModes() []int {
	return []int{-1, -2, -3, -4, math.MinInt, 4, 5, 7, 256, 257, 258, 259, 1 << 32, 1<<32 + 2, math.MinInt32, math.MaxInt32, math.MaxInt}
}

// lastOf is a kind's greatest code, mostOf the greatest power of its tables.
func lastOf(kind int) int {
	return [...]int{codes.Literals: 35, codes.Offsets: 31, codes.Matches: 52}[kind]
}
func mostOf(kind int) int {
	return [...]int{codes.Literals: 9, codes.Offsets: 8, codes.Matches: 9}[kind]
}

// each is a list of n times the same.
func each[T any](n int, x T) []T { return slices.Repeat([]T{x}, n) }

// then are lists one behind the other.
func then[T any](lists ...[]T) []T { return slices.Concat(lists...) }

// few are the first of a list, to be told.
func few[T any](l []T) []T { return l[:min(len(l), 12)] }

// counts are those of parts.
func counts(log int, parts ...int) normal.Counts { return normal.Counts{Log: log, Part: parts} }

// givenCounts are a kind's, as the chapter has them.
func givenCounts(kind int) normal.Counts {
	switch kind {
	case codes.Literals:
		return counts(6, then([]int{4, 3}, each(11, 2), each(3, 1), each(9, 2), []int{3, 2}, each(5, 1), each(4, -1))...)
	case codes.Offsets:
		return counts(5, then(each(6, 1), each(3, 2), each(15, 1), each(5, -1))...)
	case codes.Matches:
		return counts(6, then([]int{1, 4, 3}, each(6, 2), each(37, 1), each(7, -1))...)
	}
	panic("no kind")
}

// built is the table of counts that may be.
func built(c normal.Counts) fse.Table {
	table, err := fse.Build(c)
	if err != api.OK {
		panic(err)
	}
	return table
}

// described is a description of counts that may be.
func described(c normal.Counts) []byte {
	b, err := normal.Write(c)
	if err != api.OK {
		panic(err)
	}
	return b
}

// bytesOf are those of bits, written as digits, the last one first, as numbers are.
func bytesOf(digits string) []byte {
	w := bits.NewWriter()
	for _, digit := range slices.Backward([]byte(strings.ReplaceAll(digits, " ", ""))) {
		w.Write(uint64(digit-'0'), 1)
	}
	return w.Out()
}

// spelt is a table's entries as a text.
func spelt(table fse.Table) string {
	var words []string
	for _, e := range table.Entries {
		words = append(words, fmt.Sprint(e.Symbol, e.Bits, e.Base))
	}
	return strings.Join(words, ", ")
}

// oneLine is a text whose words have one blank between them.
func oneLine(text string) string { return strings.Join(strings.Fields(text), " ") }

func same(a, b fse.Table) bool { return a.Log == b.Log && slices.Equal(a.Entries, b.Entries) }

// copied is a table that shares nothing with another.
func copied(t fse.Table) fse.Table { return fse.Table{Log: t.Log, Entries: slices.Clone(t.Entries)} }

// isNone tells whether a table is the zero value.
func isNone(t fse.Table) bool { return t.Log == 0 && len(t.Entries) == 0 }

// P12.1

func TestDefaultOfEachKind(t *testing.T) {
	for _, c := range []struct {
		kind, log int
		want      string
	}{{codes.Literals, 6, literalsTable}, {codes.Offsets, 5, offsetsTable}, {codes.Matches, 6, matchesTable}} {
		table, err := tables.Default(c.kind)
		if got := spelt(table); err != api.OK || table.Log != c.log || got != oneLine(c.want) {
			t.Errorf("Default of kind %d: Log %d, %s, error %d", c.kind, table.Log, got, int(err))
		}
	}
}

func TestDefaultIsBuiltOfGivenCounts(t *testing.T) {
	for _, kind := range kinds() {
		table, err := tables.Default(kind)
		if want := built(givenCounts(kind)); err != api.OK || !same(table, want) {
			t.Errorf("Default of kind %d: Log %d, %s, error %d; want Log %d, %s", kind, table.Log, spelt(table), int(err), want.Log, spelt(want))
		}
	}
}

func TestDefaultRefusesKinds(t *testing.T) {
	for _, kind := range noKinds() {
		if table, err := tables.Default(kind); err != api.ErrArg || !isNone(table) {
			t.Errorf("Default of kind %d: %v, error %d", kind, table, int(err))
		}
	}
}

func TestDefaultAnswersNewMemory(t *testing.T) {
	for _, kind := range kinds() {
		table, _ := tables.Default(kind)
		clear(table.Entries)
		if again, err := tables.Default(kind); err != api.OK || !same(again, built(givenCounts(kind))) {
			t.Errorf("Default of kind %d, once more: %s, error %d", kind, spelt(again), int(err))
		}
	}
}

func TestMost(t *testing.T) {
	for _, kind := range kinds() {
		if got := tables.Most(kind); got != mostOf(kind) {
			t.Errorf("Most of kind %d: %d; want %d", kind, got, mostOf(kind))
		}
	}
	for _, kind := range noKinds() {
		if got := tables.Most(kind); got != 0 {
			t.Errorf("Most of kind %d: %d; want 0", kind, got)
		}
	}
}

// P12.2

// told is what Read tells.
type told struct {
	table fse.Table
	used  int
	err   api.Errno
}

func (a told) is(b told) bool { return same(a.table, b.table) && a.used == b.used && a.err == b.err }

func (a told) String() string {
	return fmt.Sprintf("Log %d, %d states %v, %d bytes, error %d", a.table.Log, len(a.table.Entries), few(a.table.Entries), a.used, int(a.err))
}

// refusal is an error, and nothing else.
func refusal(err api.Errno) told { return told{err: err} }

// read is what Read tells.
func read(kind, mode int, b []byte, old fse.Table) told {
	table, used, err := tables.Read(kind, mode, b, old)
	return told{table, used, err}
}

// readInWords is what P12.2 says of Read.
func readInWords(kind, mode int, b []byte, old fse.Table) told {
	if kind < 0 || kind > 2 || mode < 0 || mode > 3 {
		return refusal(api.ErrArg)
	}
	if mode == tables.Given {
		return told{built(givenCounts(kind)), 0, api.OK}
	}
	if mode == tables.Single {
		if len(b) == 0 {
			return refusal(api.ErrShort)
		}
		if int(b[0]) > lastOf(kind) {
			return refusal(api.ErrForm)
		}
		return told{fse.One(b[0]), 1, api.OK}
	}
	if mode == tables.Told {
		c, used, err := normal.Read(b, mostOf(kind), lastOf(kind)+1)
		if err != api.OK {
			return refusal(err)
		}
		return told{built(c), used, api.OK}
	}
	if len(old.Entries) == 0 {
		return refusal(api.ErrForm)
	}
	return told{old, 0, api.OK}
}

// wantRead fails, unless Read tells this, of bytes and a table that it leaves as they are, in memory of its own, and once more.
func wantRead(t *testing.T, kind, mode int, b []byte, old fse.Table, want told) {
	t.Helper()
	givenBytes, givenOld := slices.Clone(b), copied(old)
	got := read(kind, mode, givenBytes, givenOld)
	if !got.is(want) {
		t.Errorf("Read of kind %d, mode %d, %d bytes %d: %v; want %v", kind, mode, len(b), few(b), got, want)
	}
	if inWords := readInWords(kind, mode, b, old); !inWords.is(want) {
		t.Errorf("kind %d, mode %d, %d bytes %d: in words %v; want %v", kind, mode, len(b), few(b), inWords, want)
	}
	if got.err != api.OK && (!isNone(got.table) || got.used != 0) {
		t.Errorf("Read of kind %d, mode %d, %d bytes %d: more beside an error: %v", kind, mode, len(b), few(b), got)
	}
	clear(got.table.Entries)
	if !bytes.Equal(givenBytes, b) || !same(givenOld, old) {
		t.Errorf("Read of kind %d, mode %d: %d bytes %d, or the old table, were changed, or share memory with the answer", kind, mode, len(b), few(b))
	}
	if again := read(kind, mode, givenBytes, givenOld); !again.is(want) {
		t.Errorf("Read of kind %d, mode %d, %d bytes %d, once more: %v; want %v", kind, mode, len(b), few(b), again, want)
	}
}

// oldTables are some with entries, of one to many states; those made by hand are such as no counts have.
func oldTables() []fse.Table {
	return []fse.Table{
		fse.One(0), fse.One(7), fse.One(255), built(givenCounts(codes.Offsets)), built(counts(5, 16, 16)), built(counts(9, 500, 12)), built(counts(15, 1<<15-1, -1)),
		{Log: 9, Entries: []fse.Entry{{Symbol: 53, Bits: 1, Base: -1}}}, {Log: -1, Entries: make([]fse.Entry, 3)}, {Entries: each(70000, fse.Entry{Symbol: 1, Bits: 99, Base: 99})},
	}
}

// noTables are some without entries.
func noTables() []fse.Table {
	return []fse.Table{{}, {Entries: []fse.Entry{}}, {Log: 5}, {Log: 9, Entries: []fse.Entry{}}, {Log: -1}}
}

// someBytes are such as some modes take, and others don't.
func someBytes() [][]byte {
	return [][]byte{nil, {}, {0}, {7}, {31}, {32}, {52}, {53}, {255}, {16, 63}, {16, 63, 7, 8}, {255, 255, 255}, each(100, byte(0)), each(100, byte(255)), described(givenCounts(codes.Matches))}
}

func TestReadRefusesKindsAndModes(t *testing.T) {
	olds := append(noTables(), fse.One(3), built(counts(5, 16, 16)))
	for _, b := range someBytes() {
		for _, old := range olds {
			for _, kind := range noKinds() {
				for _, mode := range then(modes(), noModes()) {
					wantRead(t, kind, mode, b, old, refusal(api.ErrArg))
				}
			}
			for _, kind := range kinds() {
				for _, mode := range noModes() {
					wantRead(t, kind, mode, b, old, refusal(api.ErrArg))
				}
			}
		}
	}
}

func TestReadGiven(t *testing.T) {
	for _, kind := range kinds() {
		want := told{built(givenCounts(kind)), 0, api.OK}
		for _, b := range someBytes() {
			for _, old := range then(noTables(), oldTables()) {
				wantRead(t, kind, tables.Given, b, old, want)
			}
		}
		table, err := tables.Default(kind)
		if err != api.OK || !same(table, want.table) {
			t.Errorf("Default of kind %d is another one: %v, error %d", kind, table, int(err))
		}
	}
}

func TestReadSingle(t *testing.T) {
	for _, kind := range kinds() {
		for _, old := range []fse.Table{{}, fse.One(9), built(counts(5, 16, 16))} {
			wantRead(t, kind, tables.Single, nil, old, refusal(api.ErrShort))
			wantRead(t, kind, tables.Single, []byte{}, old, refusal(api.ErrShort))
			for first := range 256 {
				want := refusal(api.ErrForm)
				if first <= lastOf(kind) {
					want = told{fse.Table{Entries: []fse.Entry{{Symbol: byte(first)}}}, 1, api.OK}
				}
				for _, behind := range [][]byte{nil, {0}, {255}, {byte(first), 1, 2}, each(40, byte(53))} {
					wantRead(t, kind, tables.Single, then([]byte{byte(first)}, behind), old, want)
				}
			}
		}
	}
}

// wantTold fails, unless of just this description Read tells the table of these counts, whatever stands behind it, and whatever table was ahead.
func wantTold(t *testing.T, kind int, b []byte, c normal.Counts) {
	t.Helper()
	want := told{built(c), len(b), api.OK}
	for _, behind := range [][]byte{nil, {0}, {255}, {7, 8}, each(30, byte(255)), b} {
		wantRead(t, kind, tables.Told, then(b, behind), fse.Table{}, want)
	}
	wantRead(t, kind, tables.Told, b, fse.One(5), want)
	for n := range b {
		wantRead(t, kind, tables.Told, b[:n], fse.One(5), refusal(api.ErrShort))
	}
}

// What their bits are, from the front on: Log less 5 in 4 bits; 32 and 0 parts in 6 bits each, or 5, while 32 are left; and so on.
func TestReadToldByHand(t *testing.T) {
	for _, c := range []struct {
		digits string // the last bit first
		counts normal.Counts
	}{
		{"11111 10001 0000", counts(5, 16, 16)},
		{"111111 0000", counts(5, 32)},
		{"11 00 01 111110 0000", counts(5, 31, 0, 1)},
		{"0 111110 0000", counts(5, 31, -1)},
		{"11 10 11 01 111110 0000", counts(5, 31, 0, 0, 0, 0, 0, 0, 1)},
		{"1111111 0001", counts(6, 64)},
	} {
		for _, kind := range kinds() {
			wantTold(t, kind, bytesOf(c.digits), c.counts)
		}
	}
}

// Descriptions of the given counts, as another program of the format writes them.
func TestReadToldOfGivenCounts(t *testing.T) {
	literals := []byte{81, 16, 99, 140, 49, 198, 24, 99, 12, 33, 196, 24, 99, 102, 102, 134, 70, 146, 4, 0}
	offsets := []byte{32, 132, 16, 66, 102, 70, 68, 68, 68, 68, 36, 73, 2, 0}
	matches := []byte{33, 20, 196, 24, 99, 140, 33, 132, 16, 66, 8, 33, 132, 16, 66, 8, 33, 68, 68, 68, 68, 68, 68, 68, 68, 36, 9, 0, 0}
	wantTold(t, codes.Literals, literals, givenCounts(codes.Literals))
	wantTold(t, codes.Offsets, offsets, givenCounts(codes.Offsets))
	wantTold(t, codes.Matches, matches, givenCounts(codes.Matches))
	// Where a kind has as many codes, it may be told another's counts.
	wantTold(t, codes.Matches, literals, givenCounts(codes.Literals))
	wantTold(t, codes.Literals, offsets, givenCounts(codes.Offsets))
	wantTold(t, codes.Matches, offsets, givenCounts(codes.Offsets))
	wantRead(t, codes.Offsets, tables.Told, literals, fse.Table{}, refusal(api.ErrForm))
	wantRead(t, codes.Offsets, tables.Told, matches, fse.Table{}, refusal(api.ErrForm))
	wantRead(t, codes.Literals, tables.Told, matches, fse.Table{}, refusal(api.ErrForm))
}

func TestReadToldOfEachPower(t *testing.T) {
	for _, kind := range kinds() {
		for log := 5; log <= 15; log++ {
			for _, c := range []normal.Counts{counts(log, 1<<log), counts(log, 1<<log-1, -1), counts(log, 1<<(log-1), 1<<(log-1)), counts(log, 3, 0, 0, 1<<log-4, 1)} {
				if log <= mostOf(kind) {
					wantTold(t, kind, described(c), c)
					continue
				}
				wantRead(t, kind, tables.Told, described(c), fse.One(5), refusal(api.ErrBig))
				// The power stands ahead of all else.
				wantRead(t, kind, tables.Told, described(c)[:1], fse.One(5), refusal(api.ErrBig))
			}
		}
		// A power that no counts have.
		for first := byte(11); first < 16; first++ {
			wantRead(t, kind, tables.Told, []byte{first}, fse.One(5), refusal(api.ErrBig))
			wantRead(t, kind, tables.Told, then([]byte{first | 240}, each(20, byte(255))), fse.One(5), refusal(api.ErrBig))
		}
	}
}

// ofSymbols are counts that have just so many symbols, of several looks.
func ofSymbols(n int) []normal.Counts {
	return []normal.Counts{
		counts(5, then(each(n-1, 0), []int{32})...),
		counts(5, then([]int{31}, each(n-2, 0), []int{1})...),
		counts(6, then([]int{-1, 0, 61}, each(n-5, 0), []int{1, -1})...),
		counts(6, then(each(n-1, -1), []int{65 - n})...),
		counts(7, then([]int{129 - n}, each(n-1, -1))...),
		counts(8, then(each(n-1, 1), []int{257 - n})...),
	}
}

func TestReadToldOfAsManySymbolsAsCodes(t *testing.T) {
	for _, kind := range kinds() {
		all := lastOf(kind) + 1
		for _, n := range []int{5, all - 1, all} {
			for _, c := range ofSymbols(n) {
				wantTold(t, kind, described(c), c)
			}
		}
		for _, n := range []int{all + 1, all + 2, 54, 60} {
			for _, c := range ofSymbols(n) {
				wantRead(t, kind, tables.Told, described(c), fse.One(5), refusal(api.ErrForm))
				wantRead(t, kind, tables.Told, then(described(c), each(20, byte(0))), fse.One(5), refusal(api.ErrForm))
			}
		}
	}
}

func TestReadToldOfBytesThatEnd(t *testing.T) {
	for _, kind := range kinds() {
		for _, old := range []fse.Table{{}, fse.One(5), built(counts(5, 16, 16))} {
			wantRead(t, kind, tables.Told, nil, old, refusal(api.ErrShort))
			wantRead(t, kind, tables.Told, []byte{}, old, refusal(api.ErrShort))
			for log := range mostOf(kind) - 5 + 1 {
				wantRead(t, kind, tables.Told, []byte{byte(log)}, old, refusal(api.ErrShort))
			}
		}
		// Noughts that never end, till there are more than codes.
		noughts := then([]byte{0b0001_0000}, each(30, byte(255)))
		for n := range noughts {
			b := noughts[:n]
			wantRead(t, kind, tables.Told, b, fse.Table{}, readInWords(kind, tables.Told, b, fse.Table{}))
		}
	}
}

func TestReadAgain(t *testing.T) {
	for _, kind := range kinds() {
		for _, b := range someBytes() {
			for _, old := range noTables() {
				wantRead(t, kind, tables.Again, b, old, refusal(api.ErrForm))
			}
			for _, old := range oldTables() {
				wantRead(t, kind, tables.Again, b, old, told{old, 0, api.OK})
			}
		}
	}
}

// Whoever changes the old table changes no answer.
func TestReadAgainAnswersNewMemory(t *testing.T) {
	for _, old := range oldTables() {
		kept := copied(old)
		table, _, _ := tables.Read(codes.Matches, tables.Again, nil, old)
		clear(old.Entries)
		if !same(table, kept) {
			t.Errorf("Read, Again, of %d states shares memory with the old table", len(kept.Entries))
		}
	}
}

func TestReadOfAllPairsOfBytes(t *testing.T) {
	old := built(counts(5, 16, 16))
	for _, kind := range kinds() {
		for _, mode := range modes() {
			for x := range 1 << 16 {
				b := []byte{byte(x), byte(x >> 8)}
				if got, want := read(kind, mode, b, old), readInWords(kind, mode, b, old); !got.is(want) {
					t.Fatalf("Read of kind %d, mode %d, %d: %v; want %v", kind, mode, b, got, want)
				}
			}
		}
	}
}

// descriptionOfChance is one of some power, and of some symbols, more than a kind has codes at times; every other one is spoilt, cut, or has bytes behind it.
func descriptionOfChance(r *rand.Rand) []byte {
	often := make([]uint32, 2+r.IntN(64))
	for i := range often {
		often[i] = r.Uint32N(1000) >> r.IntN(12)
	}
	often[0]++
	often[len(often)-1]++
	c, err := normal.Of(often, 5+r.IntN(7))
	if err != api.OK {
		return nil // more symbols than states
	}
	b := described(c)
	switch r.IntN(6) {
	case 0:
		b[r.IntN(len(b))] ^= 1 << r.IntN(8)
	case 1:
		b = b[:r.IntN(len(b))]
	case 2:
		b = append(b, byte(r.Uint32()), byte(r.Uint32()))
	}
	return b
}

// bytesOfChance are some with a power at the front that may be, mostly.
func bytesOfChance(r *rand.Rand) []byte {
	b := make([]byte, r.IntN(40))
	for i := range b {
		b[i] = byte(r.Uint32())
	}
	if len(b) > 0 && r.IntN(4) > 0 {
		b[0] = b[0]&0xf0 | byte(r.IntN(5))
	}
	return b
}

func TestReadOfChance(t *testing.T) {
	r := rand.New(rand.NewPCG(12, 1))
	often := map[api.Errno]int{}
	for i := range 30000 {
		b := bytesOfChance(r)
		if i%2 == 0 {
			b = descriptionOfChance(r)
		}
		kind, mode := r.IntN(3), tables.Told
		if i%5 == 0 {
			mode = modes()[r.IntN(4)]
		}
		old := fse.Table{}
		if r.IntN(3) > 0 {
			old = fse.One(byte(r.IntN(256)))
		}
		got, want := read(kind, mode, b, old), readInWords(kind, mode, b, old)
		if !got.is(want) {
			t.Fatalf("Read of kind %d, mode %d, %d: %v; want %v", kind, mode, b, got, want)
		}
		if mode == tables.Told {
			often[got.err]++
		}
	}
	for _, err := range []api.Errno{api.OK, api.ErrShort, api.ErrForm, api.ErrBig} {
		if often[err] < 1000 {
			t.Errorf("of descriptions of chance only %d were of error %d", often[err], int(err))
		}
	}
}

// P12.3

// noCodes are some that a kind hasn't; some of them would be codes in 8 bits, or in 32.
func noCodes(kind int) []int {
	last := lastOf(kind)
	return []int{-1, -2, -last, -255, -256, math.MinInt, math.MinInt32, last + 1, last + 2, 53, 54, 64, 255, 256, 257, 256 + last, 1 << 16, 1 << 32, 1<<32 + 1, 1<<32 + last, math.MaxInt32, math.MaxInt}
}

func wantRefused(t *testing.T, kind int, l []int) {
	t.Helper()
	given := slices.Clone(l)
	table, mode, b, err := tables.Write(kind, given)
	if err != api.ErrArg || !isNone(table) || mode != 0 || len(b) != 0 {
		t.Errorf("Write of kind %d, %d codes %d: %d states, mode %d, bytes %d, error %d; want error %d", kind, len(l), few(l), len(table.Entries), mode, b, int(err), int(api.ErrArg))
	}
	if !slices.Equal(given, l) {
		t.Errorf("Write of kind %d changed %d codes %d", kind, len(l), few(l))
	}
}

// written is what Write answers.
type written struct {
	table fse.Table
	mode  int
	b     []byte
}

// write is what Write answers of codes that may be.
func write(t *testing.T, kind int, l []int) written {
	t.Helper()
	table, mode, b, err := tables.Write(kind, l)
	if err != api.OK {
		t.Fatalf("Write of kind %d, %d codes %d: error %d", kind, len(l), few(l), int(err))
	}
	return written{table, mode, b}
}

// states is how many a code has in a table.
func states(table fse.Table, code int) int {
	n := 0
	for _, e := range table.Entries {
		if int(e.Symbol) == code {
			n++
		}
	}
	return n
}

// wantWritten fails, unless Write answers of these codes what P12.3 says, and the same once more.
func wantWritten(t *testing.T, kind int, l []int) written {
	t.Helper()
	given := slices.Clone(l)
	w := write(t, kind, given)
	if !slices.Equal(given, l) {
		t.Errorf("Write of kind %d changed %d codes %d", kind, len(l), few(l))
	}
	if w.mode != tables.Given && w.mode != tables.Single && w.mode != tables.Told {
		t.Errorf("Write of kind %d, %d codes %d: mode %d", kind, len(l), few(l), w.mode)
	}
	for code := range lastOf(kind) + 1 {
		if slices.Contains(l, code) && states(w.table, code) == 0 {
			t.Errorf("Write of kind %d, %d codes %d: code %d isn't in the table", kind, len(l), few(l), code)
		}
	}
	want := told{w.table, len(w.b), api.OK}
	for _, behind := range [][]byte{nil, {0}, {255}, {1, 2, 3}, each(30, byte(170))} {
		for _, old := range []fse.Table{{}, fse.One(3)} {
			wantRead(t, kind, w.mode, then(w.b, behind), old, want)
		}
	}
	kept := written{copied(w.table), w.mode, slices.Clone(w.b)}
	clear(w.table.Entries)
	clear(w.b)
	again := write(t, kind, l)
	if !same(again.table, kept.table) || again.mode != kept.mode || !bytes.Equal(again.b, kept.b) {
		t.Errorf("Write of kind %d, %d codes %d, once more: another answer", kind, len(l), few(l))
	}
	return kept
}

func TestWriteRefusesKinds(t *testing.T) {
	for _, kind := range noKinds() {
		for _, l := range [][]int{nil, {}, {0}, {7}, {31}, {0, 1}, {-1}, {53}, {300}, each(100, 5), each(mostWritten, 1), each(mostWritten+1, 1)} {
			wantRefused(t, kind, l)
		}
	}
}

func TestWriteRefusesHowMany(t *testing.T) {
	for _, kind := range kinds() {
		wantRefused(t, kind, nil)
		wantRefused(t, kind, []int{})
		for _, n := range []int{mostWritten + 1, mostWritten + 2, 2 * mostWritten, 1 << 20} {
			wantRefused(t, kind, each(n, 0))
			wantRefused(t, kind, each(n, lastOf(kind)))
			wantRefused(t, kind, then(each(n-1, 3), []int{4}))
			wantRefused(t, kind, then(each(n-1, 3), []int{-1}))
		}
	}
}

func TestWriteRefusesCodes(t *testing.T) {
	for _, kind := range kinds() {
		for _, code := range noCodes(kind) {
			if code >= 0 && code <= lastOf(kind) {
				continue // one of another kind's
			}
			wantRefused(t, kind, []int{code})
			wantRefused(t, kind, []int{code, 0})
			wantRefused(t, kind, []int{0, code})
			wantRefused(t, kind, []int{1, 2, code, 3, 4})
			wantRefused(t, kind, each(10, code))
			wantRefused(t, kind, then(each(mostWritten-1, 7), []int{code}))
			wantRefused(t, kind, then([]int{code}, each(mostWritten-1, 7)))
		}
		wantRefused(t, kind, []int{-1, lastOf(kind) + 1})
		wantRefused(t, kind, []int{math.MaxInt, math.MinInt})
	}
	// The last code of one kind is none of a kind that has fewer.
	wantRefused(t, codes.Offsets, []int{35})
	wantRefused(t, codes.Offsets, []int{52})
	wantRefused(t, codes.Literals, []int{52})
}

// allCodes are those of a kind, once each.
func allCodes(kind int) []int {
	var l []int
	for code := range lastOf(kind) + 1 {
		l = append(l, code)
	}
	return l
}

func TestWriteOfAllCodes(t *testing.T) {
	for _, kind := range kinds() {
		all := allCodes(kind)
		wantWritten(t, kind, all)
		wantWritten(t, kind, slices.Repeat(all, 2))
		wantWritten(t, kind, slices.Repeat(all, 100))
		wantWritten(t, kind, slices.Repeat(all, mostWritten/len(all)))
		for _, code := range []int{0, 1, lastOf(kind)} {
			wantWritten(t, kind, then(all, each(1000, code)))
			wantWritten(t, kind, then(all, each(mostWritten-len(all), code)))
		}
		var rising, falling []int
		for _, code := range all {
			rising = append(rising, each(1+code*code, code)...)
			falling = append(falling, each(1+(lastOf(kind)-code)*(lastOf(kind)-code), code)...)
		}
		wantWritten(t, kind, rising)
		wantWritten(t, kind, falling)
	}
}

// All but one, so that a code that isn't there is at each place.
func TestWriteOfAllCodesButOne(t *testing.T) {
	for _, kind := range kinds() {
		for code := range lastOf(kind) + 1 {
			all := allCodes(kind)
			wantWritten(t, kind, slices.Delete(all, code, code+1))
		}
	}
}

func TestWriteOfTwoCodes(t *testing.T) {
	for _, kind := range kinds() {
		for code := range lastOf(kind) + 1 {
			other := (code + 1 + code%5) % (lastOf(kind) + 1)
			wantWritten(t, kind, []int{code, other})
			wantWritten(t, kind, then(each(50, code), []int{other}))
			wantWritten(t, kind, then([]int{other}, each(3000, code)))
		}
		for _, pair := range [][2]int{{0, 1}, {1, 0}, {0, lastOf(kind)}, {lastOf(kind), 0}, {lastOf(kind) - 1, lastOf(kind)}} {
			wantWritten(t, kind, then(each(mostWritten-1, pair[0]), []int{pair[1]}))
			wantWritten(t, kind, then(each(mostWritten/2, pair[0]), each(mostWritten/2, pair[1])))
		}
	}
}

// Of each number of codes, from two on: few have powers of few states, more have none of 32.
func TestWriteOfSoManyCodes(t *testing.T) {
	for _, kind := range kinds() {
		for n := 2; n <= lastOf(kind)+1; n++ {
			first, last := allCodes(kind)[:n], allCodes(kind)[lastOf(kind)+1-n:]
			wantWritten(t, kind, first)
			wantWritten(t, kind, last)
			wantWritten(t, kind, then(slices.Repeat(first, 40), each(2000, n/2)))
			wantWritten(t, kind, then(slices.Repeat(last, 40), each(2000, lastOf(kind))))
		}
	}
}

// ofChance are codes of which some are often there, and some seldom or not at all.
func ofChance(r *rand.Rand, kind int) []int {
	all := allCodes(kind)
	r.Shuffle(len(all), func(i, j int) { all[i], all[j] = all[j], all[i] })
	all = all[:1+r.IntN(len(all))]
	steep := r.Float64() * 4
	l := make([]int, 1+r.IntN(1<<r.IntN(13)))
	for i := range l {
		l[i] = all[int(float64(len(all))*math.Pow(r.Float64(), 1+steep))]
	}
	return l
}

func TestWriteOfChance(t *testing.T) {
	r := rand.New(rand.NewPCG(12, 2))
	often := map[int]int{}
	for i := range 1500 {
		w := wantWritten(t, i%3, ofChance(r, i%3))
		often[w.mode]++
	}
	for _, mode := range []int{tables.Given, tables.Single, tables.Told} {
		if often[mode] < 20 {
			t.Errorf("of codes of chance only %d were of mode %d", often[mode], mode)
		}
	}
}

// bitsBy is how many bits codes have by a table, all but what is told of it: written from the last to the first, and read again.
func bitsBy(t *testing.T, table fse.Table, l []int) int {
	t.Helper()
	w := bits.NewWriter()
	sum := table.Log
	state, err := fse.First(table, byte(l[len(l)-1]))
	for _, code := range slices.Backward(l[:len(l)-1]) {
		var x uint64
		var n int
		if err == api.OK {
			state, x, n, err = fse.Before(table, state, byte(code))
		}
		w.Write(x, n)
		sum += n
	}
	w.Write(uint64(state), table.Log)
	r, err2 := bits.NewBackward(w.Closed())
	if err != api.OK || err2 != api.OK || r.Left() != sum {
		t.Fatalf("%d codes %d can't be written: errors %d, %d", len(l), few(l), int(err), int(err2))
	}
	state = fse.Start(table, r)
	for i, code := range l {
		if i > 0 {
			state = fse.Next(table, state, r)
		}
		if int(table.Entries[state].Symbol) != code {
			t.Fatalf("%d codes %d: at %d there is %d; want %d", len(l), few(l), i, table.Entries[state].Symbol, code)
		}
	}
	if r.Left() != 0 {
		t.Fatalf("%d codes %d: %d bits are left", len(l), few(l), r.Left())
	}
	return sum
}

// fewestBits is how many bits codes that aren't all one have at least, with what is told of the table: by the given one, or by one of some power.
func fewestBits(t *testing.T, kind int, l []int) int {
	t.Helper()
	var often [53]uint32
	for _, code := range l {
		often[code]++
	}
	fewest := math.MaxInt
	given := built(givenCounts(kind))
	if !slices.ContainsFunc(l, func(code int) bool { return states(given, code) == 0 }) {
		fewest = bitsBy(t, given, l)
	}
	for log := 5; log <= mostOf(kind); log++ {
		if c, err := normal.Of(often[:], log); err == api.OK {
			fewest = min(fewest, 8*len(described(c))+bitsBy(t, built(c), l))
		}
	}
	return fewest
}

// So many more bits than the fewest it may be: where two tables are near one another, which has fewer hangs on the order of the codes, too.
func TestWriteIsShort(t *testing.T) {
	r := rand.New(rand.NewPCG(12, 3))
	for i := range 600 {
		kind := i % 3
		l := ofChance(r, kind)
		w := write(t, kind, l)
		got := 8*len(w.b) + bitsBy(t, w.table, l)
		if w.mode == tables.Single {
			if got != 8 {
				t.Errorf("kind %d, %d codes %d, all one: %d bits", kind, len(l), few(l), got)
			}
			continue
		}
		if fewest := fewestBits(t, kind, l); got > fewest+8+fewest/100 {
			t.Errorf("kind %d, %d codes %d: mode %d, %d bits; want %d, or a few more", kind, len(l), few(l), w.mode, got, fewest)
		}
	}
}

// Codes that are as often as the given counts have them need no table that is told; others do, if they are many.
func TestWriteChoosesTheMode(t *testing.T) {
	for _, kind := range kinds() {
		var l []int
		for code, part := range givenCounts(kind).Part {
			l = append(l, each(max(part, -part), code)...)
		}
		for _, times := range []int{1, 10, 1000} {
			w := wantWritten(t, kind, slices.Repeat(l, times))
			if w.mode != tables.Given || len(w.b) != 0 {
				t.Errorf("kind %d, %d times as given: mode %d, %d bytes", kind, times, w.mode, len(w.b))
			}
		}
		for _, l := range [][]int{{0, 1}, {1, 2, 3}, {5, 0, 5, 0}} {
			if w := wantWritten(t, kind, l); w.mode != tables.Given || len(w.b) != 0 {
				t.Errorf("kind %d, %d: mode %d, %d bytes", kind, l, w.mode, len(w.b))
			}
		}
		for _, l := range [][]int{slices.Repeat([]int{3, 9}, 500), then(each(5000, 14), []int{2}), slices.Repeat([]int{20, 21, 22}, 70)} {
			if w := wantWritten(t, kind, l); w.mode != tables.Told || len(w.b) == 0 {
				t.Errorf("kind %d, %d codes %d: mode %d, %d bytes", kind, len(l), few(l), w.mode, len(w.b))
			}
		}
	}
	// The given table of offsets lacks those above 28, so one must be told however few they are.
	for _, code := range []int{29, 30, 31} {
		for _, l := range [][]int{{code, 0}, {0, code}, then(each(70, 3), []int{code})} {
			if w := wantWritten(t, codes.Offsets, l); w.mode != tables.Told {
				t.Errorf("offsets' codes %d: mode %d", few(l), w.mode)
			}
		}
	}
	if w := wantWritten(t, codes.Offsets, []int{28, 0}); w.mode != tables.Given {
		t.Errorf("offsets' codes 28, 0: mode %d", w.mode)
	}
}

// Of many codes, of which each one is somewhat more often than the one ahead, a table has as many states as may be, and no more.
func TestWriteTakesTheGreatestPower(t *testing.T) {
	for _, kind := range kinds() {
		var l []int
		for code := range lastOf(kind) + 1 {
			l = append(l, each(50+35*code, code)...)
		}
		if w := wantWritten(t, kind, l); w.table.Log != mostOf(kind) || w.mode != tables.Told {
			t.Errorf("kind %d, %d codes: Log %d, mode %d; want Log %d", kind, len(l), w.table.Log, w.mode, mostOf(kind))
		}
	}
}

// What many codes are written by has all of them in a row, in bits that are read again.
func TestRowsOfManyCodes(t *testing.T) {
	r := rand.New(rand.NewPCG(12, 4))
	for _, kind := range kinds() {
		for _, l := range [][]int{slices.Repeat(allCodes(kind), 300), then(each(20000, 2), []int{lastOf(kind)}, each(20000, 2)), ofChance(r, kind), {4, 5}} {
			bitsBy(t, write(t, kind, l).table, l)
		}
	}
}

// P12.4

func TestWriteOfOneCodeAlone(t *testing.T) {
	for _, kind := range kinds() {
		for code := range lastOf(kind) + 1 {
			for _, n := range []int{1, 2, 3, 255, 1000, mostWritten} {
				w := wantWritten(t, kind, each(n, code))
				if len(w.b) > 1 {
					t.Errorf("kind %d, %d times code %d: bytes %d", kind, n, code, w.b)
				}
				// So its table is of that code alone, too.
				if w.mode != tables.Single || !bytes.Equal(w.b, []byte{byte(code)}) || !same(w.table, fse.One(byte(code))) {
					t.Errorf("kind %d, %d times code %d: mode %d, bytes %d, table %v", kind, n, code, w.mode, w.b, w.table)
				}
			}
		}
	}
}

// Nothing is kept: what was asked, or refused, ahead changes no answer.
func TestTheSameAgain(t *testing.T) {
	told16 := told{built(counts(5, 16, 16)), 2, api.OK}
	for range 3 {
		for _, kind := range kinds() {
			wantRead(t, kind, tables.Told, []byte{16, 63}, fse.Table{}, told16)
			wantRead(t, kind, tables.Again, []byte{16, 63}, fse.Table{}, refusal(api.ErrForm))
			wantRefused(t, kind, []int{-1})
			wantWritten(t, kind, []int{0, 0, 1})
			wantRead(t, kind, tables.Given, nil, fse.Table{}, told{built(givenCounts(kind)), 0, api.OK})
			wantRead(t, kind, 4, nil, fse.Table{}, refusal(api.ErrArg))
		}
	}
}
