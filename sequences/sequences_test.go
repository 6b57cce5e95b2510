package sequences_test

import (
	"bytes"
	"encoding/hex"
	"fmt"
	"math"
	"math/rand/v2"
	"slices"
	"strings"
	"testing"

	"lighterman/api"
	"lighterman/codes"
	"lighterman/fse"
	"lighterman/normal"
	"lighterman/sequences"
	"lighterman/tables"
)

const mostSequences = 98047

func ExampleWrite() {
	b, err := sequences.Write(nil)
	fmt.Println(b, err == api.OK)
	l := []api.Sequence{{Literals: 2, Match: 4, Offset: 1}, {Literals: 2, Match: 4, Offset: 1}}
	b, err = sequences.Write(l) // each table is of one code alone: 2, 0, 1; no bits but the one that closes them
	fmt.Println(b, err == api.OK)
	// Output:
	// [0] true
	// [2 84 2 0 1 1] true
}

func ExampleRead() {
	l, t, err := sequences.Read([]byte{2, 84, 2, 0, 1, 1}, sequences.Tables{})
	fmt.Println(l, t, err == api.OK)
	l, t, err = sequences.Read([]byte{1, 252, 1}, t) // by the same tables again
	fmt.Println(l, t, err == api.OK)
	// Output:
	// [{2 4 1} {2 4 1}] [{0 [{2 0 0}]} {0 [{0 0 0}]} {0 [{1 0 0}]}] true
	// [{2 4 1}] [{0 [{2 0 0}]} {0 [{0 0 0}]} {0 [{1 0 0}]}] true
}

// Tables are an array of the type that is promised, and nothing else.
var _ = [3]fse.Table(sequences.Tables{})

// kinds are those that there are.
func kinds() []int { return []int{codes.Literals, codes.Offsets, codes.Matches} }

// modes are those of tables.
func modes() []int { return []int{tables.Given, tables.Single, tables.Told, tables.Again} }

// each is a list of n times the same.
func each[T any](n int, x T) []T { return slices.Repeat([]T{x}, n) }

// then are lists one behind the other.
func then[T any](lists ...[]T) []T { return slices.Concat(lists...) }

// few are the first of a list, to be told.
func few[T any](l []T) []T { return l[:min(len(l), 12)] }

// byHex are bytes of digits by 16.
func byHex(text string) []byte {
	b, err := hex.DecodeString(text)
	if err != nil {
		panic(err)
	}
	return b
}

// row are sequences of a text: literals, match and offset of each.
func row(text string) []api.Sequence {
	var l []api.Sequence
	for _, words := range strings.Split(text, ",") {
		var s api.Sequence
		if _, err := fmt.Sscan(words, &s.Literals, &s.Match, &s.Offset); err != nil {
			panic(err)
		}
		l = append(l, s)
	}
	return l
}

// built is the table of counts that may be.
func built(log int, parts ...int) fse.Table {
	table, err := fse.Build(normal.Counts{Log: log, Part: parts})
	if err != api.OK {
		panic(err)
	}
	return table
}

// described is a description of counts that may be.
func described(log int, parts ...int) []byte {
	b, err := normal.Write(normal.Counts{Log: log, Part: parts})
	if err != api.OK {
		panic(err)
	}
	return b
}

// given is a kind's table that is given.
func given(kind int) fse.Table {
	table, err := tables.Default(kind)
	if err != api.OK {
		panic(err)
	}
	return table
}

// numbered is a number as digits by 2, so many.
func numbered(x uint64, n int) string {
	if n == 0 {
		return ""
	}
	return fmt.Sprintf("%0*b", n, x)
}

// closed are the bytes of bits, that are told as digits in the order in which they are read.
func closed(digits string) []byte {
	digits = "1" + strings.ReplaceAll(digits, " ", "")
	var b []byte
	for len(digits) > 0 {
		at := max(0, len(digits)-8)
		var c byte
		for _, digit := range []byte(digits[at:]) {
			c = 2*c + digit - '0'
		}
		b = append(b, c)
		digits = digits[:at]
	}
	return b
}

// opened are the digits of bytes' bits, in the order in which they are read; none, if nothing tells where they end.
func opened(b []byte) (string, bool) {
	if len(b) == 0 || b[len(b)-1] == 0 {
		return "", false
	}
	var all strings.Builder
	for _, c := range slices.Backward(b) {
		fmt.Fprintf(&all, "%08b", c)
	}
	_, digits, _ := strings.Cut(all.String(), "1")
	return digits, true
}

// reader reads digits; those that lack are noughts.
type reader struct {
	digits string
	lacked int
}

func (r *reader) number(n int) uint64 {
	var x uint64
	for range n {
		x *= 2
		if r.digits == "" {
			r.lacked++
			continue
		}
		x += uint64(r.digits[0] - '0')
		r.digits = r.digits[1:]
	}
	return x
}

// value is what a state of a kind tells, with bits that are read.
func (r *reader) value(kind int, table fse.Table, state int) uint32 {
	begin, n, err := codes.Code(kind, int(table.Entries[state].Symbol))
	if err != api.OK {
		panic(err)
	}
	return begin + uint32(r.number(n))
}

// follow is the state that follows one.
func (r *reader) follow(table fse.Table, state int) int {
	e := table.Entries[state]
	return e.Base + int(r.number(e.Bits))
}

// digitsOf are the bits of sequences by tables, in the order in which they are read.
func digitsOf(of sequences.Tables, l []api.Sequence) string {
	var parts []string // from the last one on
	var at [3]int
	for i, s := range slices.Backward(l) {
		var moves, added [3]string
		for kind, x := range []uint32{s.Literals, s.Offset, s.Match} {
			code, more, err := codes.Of(kind, x)
			if err != api.OK {
				panic(err)
			}
			_, n, _ := codes.Code(kind, code)
			added[kind] = numbered(uint64(more), n)
			if i == len(l)-1 {
				at[kind], err = fse.First(of[kind], byte(code))
			} else {
				at[kind], moves[kind], err = before(of[kind], at[kind], byte(code))
			}
			if err != api.OK {
				panic(err)
			}
		}
		parts = append(parts, moves[codes.Offsets], moves[codes.Matches], moves[codes.Literals])
		parts = append(parts, added[codes.Literals], added[codes.Matches], added[codes.Offsets])
	}
	for _, kind := range slices.Backward(kinds()) {
		parts = append(parts, numbered(uint64(at[kind]), of[kind].Log))
	}
	slices.Reverse(parts)
	return strings.Join(parts, "")
}

// before is the state of a symbol that one follows, and the digits that tell that.
func before(of fse.Table, state int, symbol byte) (int, string, api.Errno) {
	ahead, x, n, err := fse.Before(of, state, symbol)
	return ahead, numbered(x, n), err
}

// headOf is how so many sequences are told in the fewest bytes.
func headOf(n int) []byte {
	switch {
	case n < 128:
		return []byte{byte(n)}
	case n < 32512:
		return []byte{byte(128 + n/256), byte(n % 256)}
	}
	return []byte{255, byte((n - 32512) % 256), byte((n - 32512) / 256)}
}

// modesOf is the byte of three modes.
func modesOf(ofLiterals, ofOffsets, ofMatches int) []byte {
	return []byte{byte(64*ofLiterals + 16*ofOffsets + 4*ofMatches)}
}

// told is what Read tells.
type told struct {
	l      []api.Sequence
	tables sequences.Tables
	err    api.Errno
}

func (a told) is(b told) bool {
	return slices.Equal(a.l, b.l) && same(a.tables, b.tables) && a.err == b.err
}

func (a told) String() string {
	var of []string
	for _, table := range a.tables {
		of = append(of, fmt.Sprintf("Log %d %v", table.Log, few(table.Entries)))
	}
	return fmt.Sprintf("%d sequences %v, tables %s, error %d", len(a.l), few(a.l), strings.Join(of, "; "), int(a.err))
}

func same(a, b sequences.Tables) bool {
	for kind := range a {
		if a[kind].Log != b[kind].Log || !slices.Equal(a[kind].Entries, b[kind].Entries) {
			return false
		}
	}
	return true
}

// copied are tables that share nothing with others.
func copied(of sequences.Tables) sequences.Tables {
	for kind := range of {
		of[kind].Entries = slices.Clone(of[kind].Entries)
	}
	return of
}

// refusal is an error, and nothing else.
func refusal(err api.Errno) told { return told{err: err} }

// read is what Read tells.
func read(b []byte, old sequences.Tables) told {
	l, of, err := sequences.Read(b, old)
	return told{l, of, err}
}

// readInWords is what P13.1 and P13.2 say of Read.
func readInWords(b []byte, old sequences.Tables) told {
	if len(b) == 0 {
		return refusal(api.ErrShort)
	}
	n, size := int(b[0]), 1
	switch {
	case b[0] == 255:
		size = 3
	case b[0] >= 128:
		size = 2
	}
	if len(b) < size {
		return refusal(api.ErrShort)
	}
	switch size {
	case 2:
		n = (n-128)*256 + int(b[1])
	case 3:
		n = int(b[1]) + 256*int(b[2]) + 32512
	}
	b = b[size:]
	if n == 0 && len(b) > 0 {
		return refusal(api.ErrLeft)
	}
	if n == 0 {
		return told{tables: old}
	}
	if len(b) == 0 {
		return refusal(api.ErrShort)
	}
	modes := b[0]
	if modes%4 != 0 {
		return refusal(api.ErrForm)
	}
	b = b[1:]
	var of sequences.Tables
	for kind, mode := range []byte{modes / 64, modes / 16 % 4, modes / 4 % 4} {
		table, used, err := tables.Read(kind, int(mode), b, old[kind])
		if err != api.OK {
			return refusal(err)
		}
		of[kind], b = table, b[used:]
	}
	return rowInWords(n, of, b)
}

// rowInWords is what P13.2 says of so many sequences.
func rowInWords(n int, of sequences.Tables, b []byte) told {
	digits, ok := opened(b)
	if !ok {
		return refusal(api.ErrForm)
	}
	r := &reader{digits: digits}
	ofLiterals, ofOffsets, ofMatches := of[0], of[1], of[2]
	literals := int(r.number(ofLiterals.Log))
	offset := int(r.number(ofOffsets.Log))
	match := int(r.number(ofMatches.Log))
	var l []api.Sequence
	for i := range n {
		var s api.Sequence
		s.Offset = r.value(codes.Offsets, ofOffsets, offset)
		s.Match = r.value(codes.Matches, ofMatches, match)
		s.Literals = r.value(codes.Literals, ofLiterals, literals)
		l = append(l, s)
		if i < n-1 {
			literals = r.follow(ofLiterals, literals)
			match = r.follow(ofMatches, match)
			offset = r.follow(ofOffsets, offset)
		}
	}
	switch {
	case r.lacked > 0:
		return refusal(api.ErrForm)
	case r.digits != "":
		return refusal(api.ErrLeft)
	}
	return told{l, of, api.OK}
}

// wantRead fails, unless Read tells this, of bytes and tables that it leaves as they are, in memory of its own, and once more.
func wantRead(t *testing.T, b []byte, old sequences.Tables, want told) {
	t.Helper()
	givenBytes, givenOld := slices.Clone(b), copied(old)
	got := read(givenBytes, givenOld)
	if !got.is(want) {
		t.Errorf("%d bytes %d: %v; want %v", len(b), few(b), got, want)
	}
	if inWords := readInWords(b, old); !inWords.is(want) {
		t.Errorf("%d bytes %d: in words %v; want %v", len(b), few(b), inWords, want)
	}
	if got.err != api.OK && (len(got.l) > 0 || !same(got.tables, sequences.Tables{})) {
		t.Errorf("%d bytes %d: more beside an error: %v", len(b), few(b), got)
	}
	clear(got.l)
	for kind := range got.tables {
		if got.err == api.OK && !slices.Equal(got.tables[kind].Entries, want.tables[kind].Entries) {
			t.Errorf("%d bytes %d: the tables share memory", len(b), few(b))
		}
		clear(got.tables[kind].Entries)
	}
	if !bytes.Equal(givenBytes, b) || !same(givenOld, old) {
		t.Errorf("%d bytes %d, or the old tables, were changed, or share memory with the answer", len(b), few(b))
	}
	if again := read(givenBytes, givenOld); !again.is(want) {
		t.Errorf("%d bytes %d, once more: %v; want %v", len(b), few(b), again, want)
	}
}

// wantAsInWords fails, unless Read tells what the promises say; it is that.
func wantAsInWords(t *testing.T, b []byte, old sequences.Tables) told {
	t.Helper()
	want := readInWords(b, old)
	wantRead(t, b, old, want)
	return want
}

// ones are tables of one code alone.
func ones(ofLiterals, ofOffsets, ofMatches byte) sequences.Tables {
	return sequences.Tables{fse.One(ofLiterals), fse.One(ofOffsets), fse.One(ofMatches)}
}

// wide are tables of many states, other ones than those that are given.
func wide() sequences.Tables {
	return sequences.Tables{
		built(7, then([]int{20, 0, -1}, each(20, 3), []int{5, 30, 12})...),
		built(8, then([]int{100, 0, 50}, each(10, 7), each(6, -1), []int{30})...),
		built(9, then([]int{200, 0, -1}, each(28, 9), []int{50}, each(9, 1))...),
	}
}

// olds are some tables that may be ahead.
func olds() []sequences.Tables {
	return []sequences.Tables{
		{},
		ones(3, 7, 1),
		wide(),
		{given(0), given(1), given(2)},
		{fse.One(9), {}, built(5, 16, 16)},
		{{}, built(5, 31, -1), {}},
	}
}

// P13.1

func TestReadOfNoBytes(t *testing.T) {
	for _, old := range olds() {
		wantRead(t, nil, old, refusal(api.ErrShort))
		wantRead(t, []byte{}, old, refusal(api.ErrShort))
	}
}

func TestReadOfOneByte(t *testing.T) {
	for _, old := range olds() {
		wantRead(t, []byte{0}, old, told{tables: old})
		for first := 1; first < 256; first++ {
			wantRead(t, []byte{byte(first)}, old, refusal(api.ErrShort))
		}
	}
}

// modesAlone is the error of a byte of modes with nothing behind it: that of the first table that can't be told, or of the bits.
func modesAlone(modes int, old sequences.Tables) api.Errno {
	if modes%4 != 0 {
		return api.ErrForm
	}
	for kind, mode := range []int{modes / 64, modes / 16 % 4, modes / 4 % 4} {
		if mode == tables.Single || mode == tables.Told {
			return api.ErrShort
		}
		if mode == tables.Again && len(old[kind].Entries) == 0 {
			return api.ErrForm
		}
	}
	return api.ErrForm
}

func TestReadOfTwoBytes(t *testing.T) {
	for _, old := range []sequences.Tables{{}, ones(3, 7, 1), {fse.One(3), {}, fse.One(1)}} {
		for first := range 256 {
			for second := range 256 {
				var want told
				switch {
				case first == 0:
					want = refusal(api.ErrLeft)
				case first < 128:
					want = refusal(modesAlone(second, old))
				case first == 128 && second == 0:
					want = told{tables: old}
				default:
					want = refusal(api.ErrShort)
				}
				wantRead(t, []byte{byte(first), byte(second)}, old, want)
			}
		}
	}
}

func TestReadOfThreeBytes(t *testing.T) {
	for _, old := range []sequences.Tables{{}, ones(3, 7, 1)} {
		for first := range 256 {
			for _, second := range []byte{0, 1, 2, 3, 4, 16, 20, 64, 84, 127, 128, 252, 253, 254, 255} {
				for _, third := range []byte{0, 1, 2, 3, 7, 31, 36, 84, 128, 252, 253, 255} {
					wantAsInWords(t, []byte{byte(first), second, third}, old)
				}
			}
		}
	}
}

// None are told by one byte, or by two; 255 never tells none.
func TestReadOfNone(t *testing.T) {
	for _, old := range olds() {
		for _, head := range [][]byte{{0}, {128, 0}} {
			wantRead(t, head, old, told{tables: old})
			for _, behind := range [][]byte{{0}, {1}, {84, 2, 0, 1, 1}, {255}, each(300, byte(0))} {
				wantRead(t, then(head, behind), old, refusal(api.ErrLeft))
			}
		}
		wantRead(t, []byte{255, 0, 0}, old, refusal(api.ErrShort))
		wantRead(t, []byte{128}, old, refusal(api.ErrShort))
	}
	// What is answered are the old tables as they are, whatever they are.
	odd := each(3, fse.Entry{Symbol: 200, Bits: 99, Base: -1})
	for _, old := range []sequences.Tables{
		{{Log: 5}, {Log: -1}, {Log: math.MaxInt}},
		{{Log: 1, Entries: odd}, {Log: 2, Entries: odd}, {Entries: odd}},
		{{Entries: []fse.Entry{}}, fse.One(255), {}},
	} {
		wantRead(t, []byte{0}, old, told{tables: old})
		wantRead(t, []byte{128, 0}, old, told{tables: old})
	}
}

// Old tables may be one table three times; those that are answered share nothing.
func TestReadSharesNothing(t *testing.T) {
	one := built(5, 16, 16)
	for _, b := range [][]byte{{0}, {128, 0}, then([]byte{1, 252}, closed(strings.Repeat("0", 15)))} {
		for kind := range kinds() {
			_, of, err := sequences.Read(b, sequences.Tables{one, one, one})
			if err != api.OK {
				t.Fatalf("%d: error %d", b, int(err))
			}
			clear(of[kind].Entries)
			of[kind] = built(5, 16, 16)
			if !same(of, sequences.Tables{one, one, one}) || !same(sequences.Tables{one}, sequences.Tables{built(5, 16, 16)}) {
				t.Errorf("%d: the table of kind %d shares memory", b, kind)
			}
		}
	}
}

func TestReadOfModesThatLack(t *testing.T) {
	for _, n := range []int{1, 2, 127, 128, 129, 255, 256, 32511, 32512, 32513, mostSequences} {
		for _, old := range olds() {
			wantRead(t, headOf(n), old, refusal(api.ErrShort))
		}
	}
}

// Each of the lowest bits alone is refused, also where no table could be told.
func TestReadRefusesLowestBitsOfModes(t *testing.T) {
	for _, old := range olds() {
		for _, head := range [][]byte{{1}, {2}, {128, 7}, {255, 0, 0}} {
			for _, behind := range [][]byte{nil, {1}, {2, 0, 1, 1}, {255, 255, 255}} {
				for modes := range 256 {
					if modes%4 != 0 {
						wantRead(t, then(head, []byte{byte(modes)}, behind), old, refusal(api.ErrForm))
					}
				}
			}
		}
	}
}

func TestReadOfEachByteOfModes(t *testing.T) {
	for _, old := range olds() {
		for modes := range 256 {
			for _, behind := range [][]byte{nil, {0}, {1}, {2, 0, 1, 1}, {255, 255, 255, 255}, each(40, byte(16)), {16, 63, 16, 63, 16, 63, 99}} {
				wantAsInWords(t, then([]byte{2, byte(modes)}, behind), old)
			}
		}
	}
}

// someRow are sequences whose codes are 0 and 2 of each kind, and 5, which the wide and the given tables have.
func someRow() []api.Sequence {
	return row("0 3 1, 2 5 6, 5 8 37, 0 8 4, 2 3 63, 2 3 1")
}

// tableOf is a kind's table of a mode that has these codes, and what is told of it.
func tableOf(kind, mode int, old fse.Table) (fse.Table, []byte) {
	switch mode {
	case tables.Given:
		return given(kind), nil
	case tables.Single:
		return fse.One(byte(2 + kind)), []byte{byte(2 + kind)}
	case tables.Told:
		parts := []int{10 + kind, 0, 7, 0, 0, 15 - kind}
		return built(5, parts...), described(5, parts...)
	}
	return old, nil
}

// tablesBy are tables of modes, and what is told of them, with the byte of modes.
func tablesBy(modes [3]int, old sequences.Tables) (sequences.Tables, []byte) {
	var of sequences.Tables
	all := modesOf(modes[0], modes[1], modes[2])
	for kind, mode := range modes {
		table, b := tableOf(kind, mode, old[kind])
		of[kind] = table
		all = append(all, b...)
	}
	return of, all
}

// rowFor are some sequences for modes: of a kind that is Single all have one code, 2 plus the kind.
func rowFor(modes [3]int) []api.Sequence {
	l := someRow()
	for i := range l {
		if modes[codes.Literals] == tables.Single {
			l[i].Literals = 2
		}
		if modes[codes.Offsets] == tables.Single {
			l[i].Offset = 8 + uint32(i)
		}
		if modes[codes.Matches] == tables.Single {
			l[i].Match = 7
		}
	}
	return l
}

// Each mode of each kind, beside each of the others.
func TestReadOfEachModeOfEachKind(t *testing.T) {
	for _, a := range modes() {
		for _, b := range modes() {
			for _, c := range modes() {
				wantModes(t, [3]int{a, b, c})
			}
		}
	}
}

// wantModes fails, unless a section of these modes is told, with old tables if a mode asks for one; without it is refused.
func wantModes(t *testing.T, modes [3]int) {
	t.Helper()
	old := wide()
	of, description := tablesBy(modes, old)
	l := rowFor(modes)
	section := then(headOf(len(l)), description, closed(digitsOf(of, l)))
	wantRead(t, section, old, told{l, of, api.OK})
	for kind, mode := range modes {
		without := old
		without[kind] = fse.Table{Log: 3} // it has no entries
		want := told{l, of, api.OK}
		if mode == tables.Again {
			want = refusal(api.ErrForm)
		}
		wantRead(t, section, without, want)
	}
}

// badTable is what is told of a table that can't be read, and its error.
type badTable struct {
	mode int
	b    []byte
	err  api.Errno
}

// badTables are such ones, of a kind; those that are ErrShort only if nothing follows.
func badTables(kind int) []badTable {
	return []badTable{
		{tables.Single, []byte{byte(codes.Last(kind) + 1)}, api.ErrForm},
		{tables.Single, []byte{255}, api.ErrForm},
		{tables.Told, []byte{15, 255}, api.ErrBig},
		{tables.Told, []byte{byte(tables.Most(kind) - 4), 255, 255, 255}, api.ErrBig},
		{tables.Told, described(6, then([]int{10}, each(53, 1), []int{1})...), api.ErrForm},
		{tables.Again, nil, api.ErrForm},
		{tables.Single, nil, api.ErrShort},
		{tables.Told, nil, api.ErrShort},
		{tables.Told, []byte{16}, api.ErrShort},
	}
}

// goodTable is what is told of a kind's table that may be.
func goodTable(kind, mode int) badTable {
	_, b := tableOf(kind, mode, fse.Table{})
	return badTable{mode, b, api.OK}
}

// Tables are told one behind the other; the first error counts, and whatever stands behind it is no matter.
func TestReadRefusesTables(t *testing.T) {
	var ahead [3][]badTable // such as may be
	for _, kind := range kinds() {
		for _, mode := range []int{tables.Given, tables.Single, tables.Told} {
			ahead[kind] = append(ahead[kind], goodTable(kind, mode))
		}
	}
	for _, third := range badTables(codes.Matches) {
		for _, second := range ahead[codes.Offsets] {
			for _, first := range ahead[codes.Literals] {
				wantTablesRefused(t, first, second, third)
			}
		}
	}
	for _, second := range badTables(codes.Offsets) {
		for _, first := range ahead[codes.Literals] {
			for _, third := range then(ahead[codes.Matches], badTables(codes.Matches)) {
				wantTablesRefused(t, first, second, third)
			}
		}
	}
	for _, first := range badTables(codes.Literals) {
		for _, second := range then(ahead[codes.Offsets], badTables(codes.Offsets)) {
			for _, third := range then(ahead[codes.Matches], badTables(codes.Matches)) {
				wantTablesRefused(t, first, second, third)
			}
		}
	}
}

// wantTablesRefused fails, unless the first of these that can't be told is what Read tells.
func wantTablesRefused(t *testing.T, list ...badTable) {
	t.Helper()
	section := then([]byte{2}, modesOf(list[0].mode, list[1].mode, list[2].mode))
	for _, table := range list {
		section = append(section, table.b...)
		if table.err == api.ErrShort {
			break // only where the bytes end
		}
	}
	i := slices.IndexFunc(list, func(table badTable) bool { return table.err != api.OK })
	wantRead(t, section, sequences.Tables{}, refusal(list[i].err))
	if list[i].err != api.ErrShort {
		wantRead(t, then(section, []byte{1, 2, 3}), sequences.Tables{}, refusal(list[i].err))
	}
}

// Behind the tables there is a byte at least, and the last one isn't 0.
func TestReadOfNoBits(t *testing.T) {
	for _, section := range [][]byte{
		then([]byte{1}, modesOf(0, 0, 0)),
		{1, 84, 2, 0, 1},
		then([]byte{3}, modesOf(2, 2, 2), described(5, 16, 16), described(5, 16, 16), described(5, 16, 16)),
		then([]byte{200, 9}, modesOf(0, 1, 0), []byte{5}),
		then([]byte{255, 1, 1}, modesOf(3, 3, 3)),
	} {
		wantRead(t, section, wide(), refusal(api.ErrForm))
		for _, behind := range [][]byte{{0}, {0, 0}, {1, 0}, {255, 255, 0}, each(50, byte(0)), then(each(50, byte(255)), []byte{0})} {
			wantRead(t, then(section, behind), wide(), refusal(api.ErrForm))
		}
	}
}

// P13.2

// By the given tables: states of Literals have 6 bits, of Offsets 5, of Matches 6. State 11 of Literals is code 16, 5 of Offsets 3, 17 of Matches 37; 5, 6 and 5 bits lead on, to 2, which is code 1, to 15, 33, and to 1, 6; from there 5, 6 and 4, to 32 and 8, which is code 26, to 8, 13, and to 3, 15.
func TestReadByHand(t *testing.T) {
	of := sequences.Tables{given(0), given(1), given(2)}
	states := "001011 00101 010001"
	first := "101 10 1" // Offset 8 + 5, Match 47 + 2, Literals 16 + 1
	second := "00010 001111 00001" + " 000011 0"
	third := "01000 001000 0011" + " 000000000000101 1000001"
	l := row("17 49 13, 1 37 67, 193 16 32773")
	for n, digits := range []string{states + first, states + first + second, states + first + second + third} {
		want := told{l[:n+1], of, api.OK}
		for _, old := range []sequences.Tables{{}, wide(), ones(1, 2, 3)} {
			wantRead(t, then([]byte{byte(n + 1), 0}, closed(digits)), old, want)
		}
		wantRead(t, then([]byte{128, byte(n + 1), 252}, closed(digits)), of, want)
	}
}

// The sections were written by another program of the format; where there are two, the second one has tables of the first one again.
func TestReadOfSectionsWrittenElsewhere(t *testing.T) {
	for _, sections := range [][][2]string{
		{{
			"0800ba21400051d9d939b022689ca7e57ef07261",
			"18 5 6, 3 37 5, 5 18 4, 5 5 11, 0 7 7, 3 26 49, 0 5 1, 1 33 6",
		}}, {{
			"1620107a3776a0e0cf60d0be12478208bda5531b94c7810f380028bfc28ab4412f5efb0187f28b768be98d15aba81163210c",
			"18 6 7, 4 5 4, 14 10 37, 2 10 12, 2 4 6, 5 66 7, 6 6 8, 0 21 87, 2 8 4, 3 5 5, 1 10 4, 15 21 84, 0 4 16, 0 38 4, 8 18 10, 0 5 78, 4 4 6, 6 6 32, 9 56 12, 5 5 4, 1 50 47, 2 22 4",
		}}, {{
			"1928508c32d60150835452943af5da630dde9aca283b0e42c3a059367a16ccf508ae019619800023358d673635a79801431b144f103976ae49",
			"12 3 14, 2 20 18, 4 3 7, 1 14 4, 2 3 3, 6 3 1, 1 54 42, 4 3 3, 1 3 1, 1 3 7, 4 3 13, 4 3 3, 0 5 128, 0 3 1, 2 3 22, 1 3 5, 0 3 43, 4 9 2, 0 3 6, 11 42 4, 1 6 9, 2 30 68, 3 6 37, 3 6 12, 5 13 14",
		}}, {{
			"1ea0801ad554da0e20cc59d4031b4d0936248ebb21caccc46324002e8cd42eb923c23abbdbad4820f4c3c10c1cf4dab07e8c78599d7a3ec56b40bdb58a26c8369002",
			"16 10 1, 1 3 2, 1 9 29, 0 10 3, 3 3 2, 2 32 4, 1 17 5, 1 56 2, 4 5 10, 0 4 122, 1 3 3, 2 5 8, 0 16 9, 0 6 30, 3 8 4, 1 24 36, 3 4 5, 4 15 11, 2 4 9, 3 27 46, 0 5 84, 1 6 21, 8 3 9, 5 6 56, 0 43 74, 0 11 5, 1 6 4, 1 8 13, 9 4 42, 4 4 3",
		}}, {{
			"0410008edb911838c3",
			"18 51 1, 7 19 1, 3 5 1, 2 18 1",
		}}, {{
			"0314020109772f",
			"11 4 7, 1 4 4, 1 4 5",
		}}, {{
			"1ba81010dbfd3f032002027d1070beffffff7f0626ff9c4fd97892a23e910096e9117a16426260a9652c0d855929",
			"42 4 17, 2 4 18, 2 5 19, 2 4 13, 3 5 20, 2 4 16, 2 5 24, 2 5 18, 2 5 20, 2 4 13, 2 5 1, 2 4 16, 3 5 19, 2 5 11, 3 5 22, 2 4 16, 2 5 20, 2 4 9, 2 5 26, 2 4 18, 2 5 20, 2 5 11, 2 4 9, 2 5 18, 2 5 23, 2 4 25, 1 130857 4",
		}, {
			"0cec4048903ea2b5d64bc0c15ed490984783a4",
			"43 5 20, 2 5 18, 2 4 16, 3 5 2, 2 4 11, 3 4 12, 2 5 16, 3 4 20, 3 5 21, 3 4 1, 2 5 12, 3 4 2",
		}}, {{
			"2fa81120c4afff67408aa40f1110fafdffffff339efe7c5bc6fb7109a52659bd28c0a7a7b53e957cbb4e3a1be200a8ece4472ce79fe2451ce30aa906a796aa0a",
			"42 5 3, 3 4 22, 2 5 12, 3 4 21, 2 4 17, 2 5 1, 2 5 18, 3 5 3, 2 4 2, 2 5 23, 2 5 15, 2 4 25, 2 5 24, 2 4 23, 2 4 12, 2 4 15, 3 4 21, 2 5 16, 2 4 17, 2 4 18, 2 5 22, 3 5 23, 2 4 25, 2 4 1, 3 5 13, 2 5 12, 2 5 26, 2 4 15, 2 5 13, 2 4 2, 2 4 11, 2 5 12, 3 4 24, 2 5 1, 3 4 18, 2 4 13, 2 5 1, 2 5 2, 2 4 10, 2 4 26, 3 4 12, 3 4 17, 2 5 3, 2 5 24, 3 5 21, 2 5 23, 1 130721 4",
		}, {
			"33fc2e1f618b5ae64dc785f891b2d49e602a67e6a2cd3780978dfa32515e26398af491923eb76ed2c522e26bd5f65501",
			"42 4 13, 2 4 15, 3 4 24, 3 4 11, 2 5 3, 2 4 18, 2 5 23, 2 5 22, 2 4 25, 2 5 26, 2 5 18, 2 5 24, 2 4 15, 2 5 2, 3 5 20, 2 4 18, 2 4 22, 2 4 23, 2 5 21, 2 4 12, 3 4 10, 2 5 13, 2 5 1, 2 5 18, 2 5 24, 2 5 17, 3 4 15, 2 5 22, 3 4 18, 2 5 11, 2 5 1, 2 4 12, 3 4 3, 2 5 17, 2 5 3, 2 5 26, 2 5 21, 3 4 3, 2 5 2, 3 4 15, 2 4 18, 2 4 12, 2 4 13, 2 5 11, 3 4 2, 2 4 26, 2 4 18, 2 5 11, 3 5 24, 3 5 25, 2 5 2",
		}},
	} {
		var old sequences.Tables
		for _, section := range sections {
			got := wantAsInWords(t, byHex(section[0]), old)
			if want := row(section[1]); got.err != api.OK || !slices.Equal(got.l, want) {
				t.Errorf("%s: %v; want %v", section[0], got, few(want))
			}
			old = got.tables
		}
	}
}

// Bits lack, be it one or all of them; and bits are left, be it one or many, whatever they are.
func TestReadOfBitsThatLackOrAreLeft(t *testing.T) {
	old := wide()
	for _, modes := range [][3]int{{0, 0, 0}, {1, 1, 1}, {2, 2, 2}, {3, 3, 3}, {0, 1, 2}, {3, 2, 1}, {1, 0, 3}} {
		of, description := tablesBy(modes, old)
		for n := 1; n <= len(someRow()); n++ {
			l := rowFor(modes)[:n]
			ahead := then(headOf(n), description)
			digits := digitsOf(of, l)
			wantRead(t, then(ahead, closed(digits)), old, told{l, of, api.OK})
			for have := range len(digits) {
				wantRead(t, then(ahead, closed(digits[:have])), old, refusal(api.ErrForm))
			}
			for _, more := range []int{1, 2, 3, 7, 8, 9, 55, 56, 57, 64, 300} {
				for _, digit := range []string{"0", "1"} {
					wantRead(t, then(ahead, closed(digits+strings.Repeat(digit, more))), old, refusal(api.ErrLeft))
				}
			}
		}
	}
}

// Of one code alone in each table there are no bits of states, and none at all, if no code adds any.
func TestReadOfOneCodeAlone(t *testing.T) {
	for _, n := range []int{1, 2, 127, 128, 40000} {
		section := then(headOf(n), []byte{84, 15, 0, 31})
		of := ones(15, 0, 31)
		wantRead(t, then(section, []byte{1}), sequences.Tables{}, told{each(n, api.Sequence{Literals: 15, Match: 34, Offset: 1}), of, api.OK})
		wantRead(t, then(section, []byte{2}), sequences.Tables{}, refusal(api.ErrLeft))
		wantRead(t, then(section, []byte{0, 1}), sequences.Tables{}, refusal(api.ErrLeft))
		wantRead(t, then(headOf(n), []byte{252, 1}), of, told{each(n, api.Sequence{Literals: 15, Match: 34, Offset: 1}), of, api.OK})
	}
	// Those that are added follow on one another: 2 of Offset, 1 of Match, 1 of Literals.
	section := []byte{3, 84, 16, 2, 32}
	of := ones(16, 2, 32)
	wantRead(t, then(section, closed("0001 1110 0111")), sequences.Tables{}, told{row("17 35 4, 16 36 7, 17 36 5"), of, api.OK})
	// The greatest codes add the most.
	section = []byte{2, 84, 35, 31, 52}
	of = ones(35, 31, 52)
	most := strings.Repeat("1", 31+16+16)
	none := strings.Repeat("0", 31+16+16)
	wantRead(t, then(section, closed(most+none)), sequences.Tables{}, told{row("131071 131074 4294967295, 65536 65539 2147483648"), of, api.OK})
	wantRead(t, then(section, closed(none+most)), sequences.Tables{}, told{row("65536 65539 2147483648, 131071 131074 4294967295"), of, api.OK})
}

// Cut anywhere a section is no such one any more. With a byte behind it the bits are others; by chance they may be just enough.
func TestReadOfCutSections(t *testing.T) {
	for _, section := range [][]byte{
		byHex("0800ba21400051d9d939b022689ca7e57ef07261"),
		byHex("1928508c32d60150835452943af5da630dde9aca283b0e42c3a059367a16ccf508ae019619800023358d673635a79801431b144f103976ae49"),
		byHex("2fa81120c4afff67408aa40f1110fafdffffff339efe7c5bc6fb7109a52659bd28c0a7a7b53e957cbb4e3a1be200a8ece4472ce79fe2451ce30aa906a796aa0a"),
		{2, 84, 2, 0, 1, 1},
		{255, 0, 0, 84, 2, 0, 1, 1},
	} {
		for size := range section {
			if got := wantAsInWords(t, section[:size], wide()); got.err == api.OK {
				t.Errorf("%d bytes of %x: %v", size, section, got)
			}
		}
		taken := 0
		for c := range 256 {
			if got := wantAsInWords(t, append(slices.Clone(section), byte(c)), wide()); got.err == api.OK {
				taken++
			}
		}
		if taken > 10 {
			t.Errorf("%x is told with %d of all bytes behind it", section, taken)
		}
		wantRead(t, append(slices.Clone(section), 0), wide(), refusal(api.ErrForm))
	}
}

// howMany are edges of how many sequences there are, and how they are told.
func howMany() map[int][]byte {
	return map[int][]byte{
		1: {1}, 127: {127}, 128: {128, 128}, 129: {128, 129}, 255: {128, 255}, 256: {129, 0},
		32511: {254, 255}, 32512: {255, 0, 0}, 32513: {255, 1, 0}, 32767: {255, 255, 0}, 32768: {255, 0, 1},
		65535: {255, 255, 128}, mostSequences - 1: {255, 254, 255}, mostSequences: {255, 255, 255},
	}
}

func TestReadOfHowMany(t *testing.T) {
	for n, head := range howMany() {
		want := told{each(n, api.Sequence{Literals: 2, Match: 4, Offset: 1}), ones(2, 0, 1), api.OK}
		wantRead(t, then(head, []byte{84, 2, 0, 1, 1}), sequences.Tables{}, want)
		wantRead(t, then(head, []byte{252, 1}), ones(2, 0, 1), want)
	}
	// By two bytes fewer may be told, too.
	for n := 1; n < 128; n++ {
		want := told{each(n, api.Sequence{Literals: 2, Match: 4, Offset: 1}), ones(2, 0, 1), api.OK}
		wantRead(t, []byte{128, byte(n), 84, 2, 0, 1, 1}, sequences.Tables{}, want)
	}
}

// Old tables that are made by hand have some answer, and beside an error nothing else.
func TestReadByTablesMadeByHand(t *testing.T) {
	odd := []fse.Table{
		{Log: 9, Entries: []fse.Entry{{}}},
		{Log: -1, Entries: []fse.Entry{{Symbol: 2, Bits: 1, Base: -1}}},
		{Log: 57, Entries: []fse.Entry{{Symbol: 2, Bits: 57, Base: math.MaxInt}}},
		{Log: 56, Entries: each(7, fse.Entry{Symbol: 1, Bits: 56, Base: math.MaxInt})},
		{Log: 1, Entries: each(2, fse.Entry{Symbol: 3, Bits: 3, Base: math.MinInt})},
		{Log: math.MinInt, Entries: []fse.Entry{{Symbol: 1, Bits: math.MinInt, Base: 5}}},
		fse.One(32), fse.One(36), fse.One(53), fse.One(255),
		built(6, then(each(60, 0), []int{32, 32})...),
	}
	for _, a := range odd {
		for _, b := range odd {
			for _, old := range []sequences.Tables{{a, b, a}, {a, a, b}, {b, a, a}} {
				for _, behind := range [][]byte{{1}, {2}, each(3, byte(170)), each(100, byte(255)), each(90, byte(1))} {
					for _, modes := range []byte{252, 192, 48, 12} {
						section := then([]byte{5, modes}, behind)
						got := read(section, old)
						if got.err != api.OK && !got.is(refusal(got.err)) {
							t.Errorf("old tables %v, bytes %d: more beside an error: %v", old, few(section), got)
						}
						if again := read(section, old); !again.is(got) {
							t.Errorf("old tables %v, bytes %d: %v, and then %v", old, few(section), got, again)
						}
					}
				}
			}
		}
	}
}

// An old table of another kind, or one that is made by hand, may have codes, or states, that there aren't.
func TestReadOfCodesThatThereAreNot(t *testing.T) {
	for kind, code := range map[int]byte{codes.Literals: 36, codes.Offsets: 32, codes.Matches: 53} {
		for _, table := range []fse.Table{fse.One(code), fse.One(255), {Log: 1, Entries: []fse.Entry{{}}}, {Log: 3, Entries: []fse.Entry{{}}}, {Log: 7, Entries: make([]fse.Entry, 127)}} {
			old := ones(2, 0, 1)
			old[kind] = table
			wantNoCode(t, []byte{1, 252, 255, 255}, old)
			wantNoCode(t, []byte{200, 200, 252, 255, 255}, old)
		}
		old := ones(2, 0, 1)
		old[kind] = fse.One(code - 1)
		wantAsInWords(t, then([]byte{1, 252}, each(8, byte(255))), old)
	}
}

// wantNoCode fails, unless Read tells that there is no such code.
func wantNoCode(t *testing.T, b []byte, old sequences.Tables) {
	t.Helper()
	if got := read(b, old); !got.is(refusal(api.ErrRange)) {
		t.Errorf("old tables %v, bytes %d: %v", old, b, got)
	}
}

// numberOf is some number of a kind's code.
func numberOf(r *rand.Rand, kind, code int) uint32 {
	begin, n, err := codes.Code(kind, code)
	if err != api.OK {
		panic(err)
	}
	return begin + uint32(r.Uint64N(1<<n))
}

// rowOfChance are so many sequences, of few codes or of many.
func rowOfChance(r *rand.Rand, n int) []api.Sequence {
	var most [3]int
	for kind := range most {
		most[kind] = 1 + r.IntN(codes.Last(kind)+1)
	}
	l := make([]api.Sequence, n)
	for i := range l {
		if i > 0 && r.IntN(3) == 0 {
			l[i] = l[i-1]
			continue
		}
		l[i] = api.Sequence{
			Literals: numberOf(r, codes.Literals, r.IntN(most[codes.Literals])),
			Match:    numberOf(r, codes.Matches, r.IntN(most[codes.Matches])),
			Offset:   numberOf(r, codes.Offsets, r.IntN(most[codes.Offsets])),
		}
	}
	return l
}

// codesOf are those of sequences, of a kind.
func codesOf(kind int, l []api.Sequence) []int {
	var all []int
	for _, s := range l {
		code, _, err := codes.Of(kind, []uint32{s.Literals, s.Offset, s.Match}[kind])
		if err != api.OK {
			panic(err)
		}
		all = append(all, code)
	}
	return all
}

// hasAll tells whether a table has states of all these codes.
func hasAll(table fse.Table, list []int) bool {
	return !slices.ContainsFunc(list, func(code int) bool {
		_, err := fse.First(table, byte(code))
		return err != api.OK
	})
}

// tableOfChance is some table of codes, by whichever mode, and what is told of it.
func tableOfChance(r *rand.Rand, kind int, list []int, old fse.Table) (fse.Table, int, []byte) {
	mode := r.IntN(4)
	switch {
	case mode == tables.Given && hasAll(given(kind), list):
		return given(kind), mode, nil
	case mode == tables.Single && slices.Min(list) == slices.Max(list):
		return fse.One(byte(list[0])), mode, []byte{byte(list[0])}
	case mode == tables.Again && hasAll(old, list):
		return old, mode, nil
	}
	often := make([]uint32, codes.Last(kind)+1)
	for _, code := range then(list, []int{0, 1}) {
		often[code]++
	}
	for {
		c, err := normal.Of(often, 5+r.IntN(tables.Most(kind)-4))
		if err == api.OK {
			return built(c.Log, c.Part...), tables.Told, described(c.Log, c.Part...)
		}
	}
}

// sectionOfChance is some section of sequences, and its tables.
func sectionOfChance(r *rand.Rand, l []api.Sequence, old sequences.Tables) ([]byte, sequences.Tables) {
	var of sequences.Tables
	var modes [3]int
	var descriptions []byte
	for kind := range of {
		table, mode, b := tableOfChance(r, kind, codesOf(kind, l), old[kind])
		of[kind], modes[kind] = table, mode
		descriptions = append(descriptions, b...)
	}
	return then(headOf(len(l)), modesOf(modes[0], modes[1], modes[2]), descriptions, closed(digitsOf(of, l))), of
}

// spoilt are bytes with some fault.
func spoilt(r *rand.Rand, b []byte) []byte {
	b = slices.Clone(b)
	switch r.IntN(5) {
	case 0:
		return b[:r.IntN(len(b))]
	case 1:
		return slices.Insert(b, r.IntN(len(b)+1), byte(r.IntN(256)))
	case 2:
		b[r.IntN(min(len(b), 7))] = byte(r.IntN(256))
	case 3:
		b[len(b)-1] = byte(r.IntN(256))
	case 4:
		b[r.IntN(len(b))] ^= 1 << r.IntN(8)
	}
	return b
}

func TestReadOfChance(t *testing.T) {
	r := rand.New(rand.NewPCG(13, 1))
	often := map[api.Errno]int{}
	for range 1200 {
		var old sequences.Tables
		for range 3 {
			l := rowOfChance(r, 1+r.IntN(1<<r.IntN(8)))
			section, of := sectionOfChance(r, l, old)
			wantRead(t, section, old, told{l, of, api.OK})
			for range 3 {
				got := wantAsInWords(t, spoilt(r, section), old)
				often[got.err]++
			}
			old = of
		}
	}
	for err, least := range map[api.Errno]int{api.OK: 50, api.ErrShort: 500, api.ErrForm: 2000, api.ErrBig: 100, api.ErrLeft: 500} {
		if often[err] < least {
			t.Errorf("of spoilt sections only %d had error %d", often[err], int(err))
		}
	}
}

func TestReadOfBytesOfChance(t *testing.T) {
	r := rand.New(rand.NewPCG(13, 2))
	for range 20000 {
		b := make([]byte, 1+r.IntN(30))
		for i := range b {
			b[i] = byte(r.IntN(256))
		}
		b[0] %= 20
		if len(b) > 1 {
			b[1] &^= 3
		}
		wantAsInWords(t, b, olds()[r.IntN(len(olds()))])
	}
}

// P13.3

// write is the section of sequences that may be.
func write(t *testing.T, l []api.Sequence) []byte {
	t.Helper()
	b, err := sequences.Write(l)
	if err != api.OK {
		t.Fatalf("Write of %d sequences %v: error %d", len(l), few(l), int(err))
	}
	return b
}

// wantRefused fails, unless Write refuses these, and leaves them as they are.
func wantRefused(t *testing.T, l []api.Sequence) {
	t.Helper()
	given := slices.Clone(l)
	if b, err := sequences.Write(given); err != api.ErrArg || len(b) > 0 {
		t.Errorf("Write of %d sequences %v: %d bytes, error %d; want error %d", len(l), few(l), len(b), int(err), int(api.ErrArg))
	}
	if !slices.Equal(given, l) {
		t.Errorf("Write changed %d sequences %v", len(l), few(l))
	}
}

// wantWritten fails, unless Write answers a section that is read as these sequences, whatever tables are ahead, and once more the same; it is that section, and its tables.
func wantWritten(t *testing.T, l []api.Sequence) ([]byte, sequences.Tables) {
	t.Helper()
	given := slices.Clone(l)
	b := write(t, given)
	if !slices.Equal(given, l) {
		t.Errorf("Write changed %d sequences %v", len(l), few(l))
	}
	var of sequences.Tables
	for _, old := range olds() {
		want := told{l, old, api.OK}
		if len(l) > 0 {
			want.tables = tablesOf(t, b)
			of = want.tables
		}
		wantRead(t, b, old, want)
	}
	kept := slices.Clone(b)
	clear(b)
	if again := write(t, l); !bytes.Equal(again, kept) {
		t.Errorf("Write of %d sequences %v, once more: another section", len(l), few(l))
	}
	return kept, of
}

// tablesOf are the tables that are told in a section of sequences, and have all their codes; none of them is one ahead.
func tablesOf(t *testing.T, b []byte) sequences.Tables {
	t.Helper()
	size := 1
	if b[0] >= 128 {
		size++
	}
	if b[0] == 255 {
		size++
	}
	modes := int(b[size])
	b = b[size+1:]
	var of sequences.Tables
	for kind, mode := range []int{modes / 64, modes / 16 % 4, modes / 4 % 4} {
		if mode == tables.Again {
			t.Fatalf("mode %d of kind %d is that of a table ahead", mode, kind)
		}
		table, used, err := tables.Read(kind, mode, b, fse.Table{})
		if err != api.OK {
			t.Fatalf("the table of kind %d isn't told: error %d", kind, int(err))
		}
		of[kind], b = table, b[used:]
	}
	return of
}

func TestWriteOfNone(t *testing.T) {
	for _, l := range [][]api.Sequence{nil, {}} {
		if b, _ := wantWritten(t, l); !bytes.Equal(b, []byte{0}) {
			t.Errorf("Write of nothing: bytes %d", b)
		}
	}
}

// one is a sequence of which one value is told, by its kind.
func one(kind int, x uint32) api.Sequence {
	s := api.Sequence{Literals: 5, Match: 7, Offset: 3}
	switch kind {
	case codes.Literals:
		s.Literals = x
	case codes.Offsets:
		s.Offset = x
	case codes.Matches:
		s.Match = x
	}
	return s
}

// noCodes are values of a kind that have no code.
func noCodes(kind int) []uint32 {
	switch kind {
	case codes.Literals:
		return []uint32{131072, 131073, 131074, 131075, 1 << 20, 1<<24 + 5, 1 << 31, math.MaxInt32, math.MaxUint32 - 1, math.MaxUint32}
	case codes.Offsets:
		return []uint32{0}
	}
	return []uint32{0, 1, 2, 131075, 131076, 262144, 1 << 20, 1<<24 + 5, 1 << 31, math.MaxInt32, math.MaxUint32 - 1, math.MaxUint32}
}

// codeEdges are the value at which each code of a kind begins, and the last one that it reaches.
func codeEdges(kind int) []uint32 {
	var l []uint32
	for code := range codes.Last(kind) + 1 {
		begin, n, err := codes.Code(kind, code)
		if err != api.OK {
			panic(err)
		}
		l = append(l, begin, begin+uint32(1<<n-1))
	}
	return l
}

func TestWriteRefusesValues(t *testing.T) {
	good := row("5 7 3, 2 4 9")
	for _, kind := range kinds() {
		for _, x := range noCodes(kind) {
			bad := one(kind, x)
			wantRefused(t, []api.Sequence{bad})
			wantRefused(t, then([]api.Sequence{bad}, good))
			wantRefused(t, then(good, []api.Sequence{bad}))
			wantRefused(t, then(good, []api.Sequence{bad}, good))
			wantRefused(t, each(200, bad))
			wantRefused(t, then(each(mostSequences-1, good[0]), []api.Sequence{bad}))
		}
	}
	wantRefused(t, []api.Sequence{{}})
	wantRefused(t, row("4294967295 4294967295 0"))
	wantRefused(t, row("0 2 1"))
	wantRefused(t, row("0 3 0"))
}

func TestWriteRefusesHowMany(t *testing.T) {
	good := one(codes.Literals, 4)
	for _, n := range []int{mostSequences + 1, mostSequences + 2, 100000, 131072, 1 << 18} {
		wantRefused(t, each(n, good))
		wantRefused(t, each(n, api.Sequence{}))
		wantRefused(t, then(each(n-1, good), row("9 9 9")))
	}
}

// Of each kind, the first and the last value of each code: alone, beside others, and all together.
func TestWriteOfEachCode(t *testing.T) {
	for _, kind := range kinds() {
		var all []api.Sequence
		for _, x := range codeEdges(kind) {
			wantAlike(t, one(kind, x), 1)
			wantAlike(t, one(kind, x), 3)
			wantWritten(t, then([]api.Sequence{one(kind, x)}, row("1 3 1")))
			wantWritten(t, then(row("1 3 1"), []api.Sequence{one(kind, x)}))
			wantWritten(t, then(row("1 3 1"), []api.Sequence{one(kind, x)}, row("40 3 700")))
			all = append(all, one(kind, x))
		}
		wantWritten(t, all)
		slices.Reverse(all)
		wantWritten(t, all)
		wantWritten(t, then(all, each(2000, all[9]), all))
	}
	for _, c := range []struct {
		kind        int
		first, last uint32
	}{{codes.Literals, 0, 131071}, {codes.Offsets, 1, math.MaxUint32}, {codes.Matches, 3, 131074}} {
		if edges := codeEdges(c.kind); edges[0] != c.first || edges[len(edges)-1] != c.last {
			t.Errorf("kind %d: codes are of %d to %d", c.kind, edges[0], edges[len(edges)-1])
		}
	}
}

// Each code of each kind in one section.
func TestWriteOfAllCodes(t *testing.T) {
	ofLiterals, ofOffsets, ofMatches := codeEdges(codes.Literals), codeEdges(codes.Offsets), codeEdges(codes.Matches)
	var l []api.Sequence
	for i, match := range ofMatches {
		l = append(l, api.Sequence{Literals: ofLiterals[i%len(ofLiterals)], Match: match, Offset: ofOffsets[i%len(ofOffsets)]})
	}
	for _, all := range [][]api.Sequence{l, then(l, l, l), then(each(500, l[0]), l), then(l, each(5000, l[len(l)-1]))} {
		_, of := wantWritten(t, all)
		for _, kind := range kinds() {
			for code := range codes.Last(kind) + 1 {
				if !hasAll(of[kind], []int{code}) {
					t.Errorf("kind %d: code %d isn't in the table", kind, code)
				}
			}
		}
	}
}

// wantAlike fails, unless of a sequence so many times each table is of one code alone.
func wantAlike(t *testing.T, s api.Sequence, n int) {
	t.Helper()
	l := each(n, s)
	b, of := wantWritten(t, l)
	var want sequences.Tables
	for kind := range want {
		want[kind] = fse.One(byte(codesOf(kind, l)[0]))
	}
	if !same(of, want) {
		t.Errorf("%d times %v: tables %v; want %v", n, s, of, want)
	}
	if ahead := then(headOf(n), []byte{84, want[0].Entries[0].Symbol, want[1].Entries[0].Symbol, want[2].Entries[0].Symbol}); !bytes.HasPrefix(b, ahead) {
		t.Errorf("%d times %v: bytes %d; want %d ahead", n, s, few(b), ahead)
	}
}

func TestWriteOfAllAlike(t *testing.T) {
	r := rand.New(rand.NewPCG(13, 3))
	for _, s := range row("0 3 1, 2 4 1, 16 35 4, 0 34 2, 131071 131074 4294967295, 65536 65539 2147483648, 300 1000 70000, 15 34 3") {
		for _, n := range []int{1, 2, 3, 127, 128, 1000} {
			wantAlike(t, s, n)
		}
	}
	for range 200 {
		wantAlike(t, rowOfChance(r, 1)[0], 1+r.IntN(50))
	}
	for n, head := range howMany() {
		b, _ := wantWritten(t, each(n, api.Sequence{Literals: 2, Match: 4, Offset: 1}))
		if want := then(head, []byte{84, 2, 0, 1, 1}); !bytes.Equal(b, want) {
			t.Errorf("%d alike: bytes %d; want %d", n, few(b), want)
		}
	}
	// What is added may be another one each time: the codes are alike.
	l := row("16 35 4, 17 36 7, 16 36 5, 17 35 6")
	if _, of := wantWritten(t, l); !same(of, ones(16, 2, 32)) {
		t.Errorf("%v: tables %v", l, of)
	}
}

// All alike but one, in one value and in all, wherever it is.
func TestWriteOfAllAlikeButOne(t *testing.T) {
	alike := api.Sequence{Literals: 2, Match: 9, Offset: 5}
	for _, n := range []int{2, 3, 5, 100, 1000, 30000} {
		for _, other := range row("3 9 5, 2 10 5, 2 9 70, 3 10 70, 131071 131074 4294967295, 0 3 1, 2 9 7, 20 9 5, 2 99 5") {
			for _, at := range []int{0, n / 2, n - 1} {
				l := each(n, alike)
				l[at] = other
				_, of := wantWritten(t, l)
				for _, kind := range kinds() {
					list := codesOf(kind, l)
					if slices.Min(list) == slices.Max(list) && !same(sequences.Tables{of[kind]}, sequences.Tables{fse.One(byte(list[0]))}) {
						t.Errorf("%d sequences, other than %v one %v: kind %d has one code, its table is %v", n, alike, other, kind, of[kind])
					}
				}
			}
			if n > 1000 {
				break
			}
		}
	}
}

func TestWriteOfHowMany(t *testing.T) {
	r := rand.New(rand.NewPCG(13, 4))
	for n, head := range howMany() {
		l := rowOfChance(r, n)
		if b, _ := wantWritten(t, l); !bytes.HasPrefix(b, head) {
			t.Errorf("%d sequences begin with %d; want %d", n, few(b), head)
		}
	}
	for n := range 300 {
		if b, _ := wantWritten(t, rowOfChance(r, n)); !bytes.HasPrefix(b, headOf(n)) {
			t.Errorf("%d sequences begin with %d; want %d", n, few(b), headOf(n))
		}
	}
}

// What is written is what the promise's words make of the tables, bit by bit, if the last states are the lowest.
func TestWriteOfChance(t *testing.T) {
	r := rand.New(rand.NewPCG(13, 5))
	often := map[int]int{}
	for range 400 {
		l := rowOfChance(r, 1+r.IntN(1<<r.IntN(11)))
		b, of := wantWritten(t, l)
		if bits := closed(digitsOf(of, l)); !bytes.HasSuffix(b, bits) {
			t.Errorf("%d sequences %v: %d bytes; want %d at the end", len(l), few(l), len(b), len(bits))
		}
		modes := b[len(headOf(len(l)))]
		for _, mode := range []byte{modes / 64, modes / 16 % 4, modes / 4 % 4} {
			often[int(mode)]++
		}
	}
	for _, mode := range []int{tables.Given, tables.Single, tables.Told} {
		if often[mode] < 20 {
			t.Errorf("of tables of chance only %d were of mode %d", often[mode], mode)
		}
	}
}

// Sections one behind the other: the tables of the one ahead count for those that ask for them, and for none that Write wrote.
func TestSectionsBehindOneAnother(t *testing.T) {
	r := rand.New(rand.NewPCG(13, 6))
	var old sequences.Tables
	for range 200 {
		l := rowOfChance(r, 1+r.IntN(40))
		b := write(t, l)
		got := wantAsInWords(t, b, old)
		wantRead(t, b, old, told{l, got.tables, api.OK})
		again := then(headOf(len(l)), []byte{252}, closed(digitsOf(got.tables, l)))
		wantRead(t, again, got.tables, told{l, got.tables, api.OK})
		wantRead(t, []byte{0}, got.tables, told{nil, got.tables, api.OK})
		old = got.tables
	}
}

// P13.4

func TestNoSequencesAreOneByte(t *testing.T) {
	b, err := sequences.Write(nil)
	if err != api.OK || len(b) != 1 {
		t.Fatalf("Write of nothing: bytes %d, error %d", b, int(err))
	}
	for _, old := range olds() {
		wantRead(t, b, old, told{nil, old, api.OK})
	}
	for n := 1; n < 200; n++ {
		if b := write(t, each(n, api.Sequence{Match: 3, Offset: 1})); len(b) < 2 {
			t.Errorf("%d sequences are bytes %d", n, b)
		}
	}
}

// Nothing is kept: what was asked, or refused, ahead changes no answer.
func TestTheSameAgain(t *testing.T) {
	l := row("2 4 1, 2 4 1")
	for range 3 {
		wantRead(t, []byte{2, 252, 1}, sequences.Tables{}, refusal(api.ErrForm))
		wantRead(t, []byte{2, 84, 2, 0, 1, 1}, wide(), told{l, ones(2, 0, 1), api.OK})
		wantRead(t, []byte{0}, sequences.Tables{}, told{})
		wantRefused(t, []api.Sequence{{}})
		wantWritten(t, someRow())
		wantRead(t, []byte{2, 252, 1}, ones(2, 0, 1), told{l, ones(2, 0, 1), api.OK})
		wantWritten(t, nil)
		wantRead(t, []byte{1, 1}, wide(), refusal(api.ErrForm))
	}
}
