package literals_test

import (
	"bytes"
	"encoding/hex"
	"fmt"
	"math"
	"math/rand/v2"
	"slices"
	"strings"
	"testing"

	"lighterman/api"
	"lighterman/huff"
	"lighterman/literals"
	"lighterman/weights"
)

const maxBlock = 131072

func ExampleRaw() {
	b, err := literals.Raw([]byte{1, 2})
	fmt.Println(b, err == api.OK)
	// Output: [16 1 2] true
}

func ExampleSame() {
	b, err := literals.Same(7, 3)
	fmt.Println(b, err == api.OK)
	// Output: [25 7] true
}

func ExamplePacked() {
	l := []byte{0, 1, 2, 0}                               // 1, 00, 01, 1
	b, err := literals.Packed(l, []byte{2, 1, 1}, true)   // 4 of them in 3 bytes, of which 129 33 are the weights
	c, err2 := literals.Packed(l, []byte{2, 1, 1}, false) // in 1 byte
	fmt.Println(b, err == api.OK, c, err2 == api.OK)
	// Output: [66 192 0 129 33 99] true [67 64 0 99] true
}

func ExampleRead() {
	l, weights, taken, err := literals.Read([]byte{66, 192, 0, 129, 33, 99, 5, 5}, nil)
	fmt.Println(l, weights, taken, err == api.OK)
	l, weights, taken, err = literals.Read([]byte{67, 64, 0, 99, 5, 5}, weights)
	fmt.Println(l, weights, taken, err == api.OK)
	// Output:
	// [0 1 2 0] [2 1 1] 6 true
	// [0 1 2 0] [2 1 1] 4 true
}

// The kinds.
const (
	kindRaw = iota
	kindSame
	kindFresh
	kindOld
)

// each is a list of n times the same.
func each(n int, c byte) []byte { return bytes.Repeat([]byte{c}, n) }

// then are lists one behind the other.
func then(lists ...[]byte) []byte { return slices.Concat(lists...) }

// few are the first bytes, to be told.
func few(b []byte) []byte { return b[:min(len(b), 40)] }

// falling are the weights from 11 down to 1, and 1 once more: codes of 1 to 11 bits; symbols 10 and 11 have those of 11, symbol 9 one of 10.
func falling() []byte { return []byte{11, 10, 9, 8, 7, 6, 5, 4, 3, 2, 1, 1} }

// good are weights that may be.
func good() [][]byte {
	return [][]byte{{1, 1}, {2, 2}, {2, 1, 1}, {1, 0, 2, 1}, {3, 3, 3, 3}, falling(), each(128, 1), then([]byte{1, 1}, each(126, 0), []byte{2}), each(256, 4), then(each(254, 0), []byte{7, 7})}
}

// refused are lists that may not be as weights.
func refused() [][]byte {
	return [][]byte{{0}, {1}, {0, 0}, {1, 1, 0}, {1, 1, 1}, {2, 1}, {12, 12}, {255, 255}, each(257, 1), each(1000, 0)}
}

// numbered is a number in so many bytes.
func numbered(x, size int) []byte {
	b := make([]byte, size)
	for i := range b {
		b[i] = byte(x)
		x /= 256
	}
	if x != 0 {
		panic("a number of more bytes")
	}
	return b
}

// Heads of each kind, by form: how many bytes they have, and how many bits their numbers.
var (
	sizes  = [4][4]int{{1, 2, 1, 3}, {1, 2, 1, 3}, {3, 3, 4, 5}, {3, 3, 4, 5}}
	widths = [4][4]int{{5, 12, 5, 20}, {5, 12, 5, 20}, {10, 10, 14, 18}, {10, 10, 14, 18}}
)

// isPacked tells whether a kind's literals are packed.
func isPacked(kind int) bool { return kind == kindFresh || kind == kindOld }

// holds tells whether heads of this kind and form may have this number.
func holds(kind, form, n int) bool {
	if !isPacked(kind) && form%2 == 0 && n%2 != form/2 {
		return false // the number's lowest bit is the form's upper one
	}
	return n < 1<<widths[kind][form]
}

// headOf is a head; packed: how many bytes literals are packed in, 0 if they aren't.
func headOf(kind, form, n, packed int) []byte {
	if !holds(kind, form, n) || isPacked(kind) && !holds(kind, form, packed) {
		panic("a form that doesn't hold the numbers")
	}
	size, width := sizes[kind][form], widths[kind][form]
	if size == 1 {
		return numbered(kind+8*n, size)
	}
	return numbered(kind+4*form+16*(n+packed<<width), size)
}

// streamsOf are the streams of literals that have codes, one or four.
func streamsOf(l, of []byte, four bool) []byte {
	encode := huff.Encode
	if four {
		encode = huff.Encode4
	}
	b, err := encode(of, l)
	if err != api.OK {
		panic(err)
	}
	return b
}

// describe is a description of weights.
func describe(of []byte) []byte {
	b, err := weights.Write(of)
	if err != api.OK {
		panic(err)
	}
	return b
}

// packedSection is a section of so many literals, that are packed in these bytes.
func packedSection(kind, form, n int, packed ...[]byte) []byte {
	all := then(packed...)
	return then(headOf(kind, form, n, len(all)), all)
}

// sectionOf is a section of packed literals, of either kind, in this form.
func sectionOf(kind, form int, l, of []byte) []byte {
	var description []byte
	if kind == kindFresh {
		description = describe(of)
	}
	return packedSection(kind, form, len(l), description, streamsOf(l, of, form > 0))
}

// told is what Read tells.
type told struct {
	l, weights []byte
	taken      int
	err        api.Errno
}

func (a told) is(b told) bool {
	return bytes.Equal(a.l, b.l) && bytes.Equal(a.weights, b.weights) && a.taken == b.taken && a.err == b.err
}

func (a told) String() string {
	return fmt.Sprintf("%d literals %d, weights %d, %d bytes, error %d", len(a.l), few(a.l), few(a.weights), a.taken, int(a.err))
}

// read is what Read tells.
func read(b, old []byte) told {
	l, weights, taken, err := literals.Read(b, old)
	return told{l, weights, taken, err}
}

// readInWords is what P10.1 says of Read.
func readInWords(b, old []byte) told {
	short := told{err: api.ErrShort}
	if len(b) == 0 {
		return short
	}
	kind, form := int(b[0]%4), int(b[0]/4%4)
	size, width := sizes[kind][form], widths[kind][form]
	if len(b) < size {
		return short
	}
	x := 0
	for _, c := range slices.Backward(b[:size]) {
		x = 256*x + int(c)
	}
	if size == 1 {
		x /= 8
	} else {
		x /= 16
	}
	n, packed := x%(1<<width), x>>width
	behind := [4]int{n, 1, packed, packed}[kind]
	switch {
	case n > maxBlock:
		return told{err: api.ErrBig}
	case len(b) < size+behind:
		return short
	}
	taken := size + behind
	section := b[size:taken]
	switch kind {
	case kindRaw:
		return told{section, old, taken, api.OK}
	case kindSame:
		return told{each(n, section[0]), old, taken, api.OK}
	}
	of := old
	if kind == kindFresh {
		fresh, used, err := weights.Read(section)
		if err != api.OK {
			return told{err: err}
		}
		of, section = fresh, section[used:]
	}
	if len(of) == 0 {
		return told{err: api.ErrForm}
	}
	decode := huff.Decode
	if form > 0 {
		decode = huff.Decode4
	}
	l, err := decode(of, section, n)
	if err != api.OK {
		return told{err: err}
	}
	return told{l, of, taken, api.OK}
}

// wantRead fails, unless Read tells this, of bytes that it leaves as they are, in memory of its own; what it tells hangs on the section's bytes alone (P10.4).
func wantRead(t *testing.T, b, old []byte, want told) {
	t.Helper()
	given, givenOld := slices.Clone(b), slices.Clone(old)
	got := read(given, givenOld)
	if !got.is(want) {
		t.Errorf("%d bytes %d, weights %d: %v; want %v", len(b), few(b), few(old), got, want)
	}
	if inWords := readInWords(b, old); !inWords.is(want) {
		t.Errorf("%d bytes %d, weights %d: in words %v; want %v", len(b), few(b), few(old), inWords, want)
	}
	if got.err != api.OK && (got.l != nil || got.weights != nil) {
		t.Errorf("%d bytes %d, weights %d: lists beside error %d", len(b), few(b), few(old), int(got.err))
	}
	clear(got.l)
	if !bytes.Equal(got.weights, want.weights) {
		t.Errorf("%d bytes %d: literals and weights share memory", len(b), few(b))
	}
	clear(got.weights)
	if !bytes.Equal(given, b) || !bytes.Equal(givenOld, old) {
		t.Errorf("%d bytes %d, or weights %d, were changed, or share memory with the answer", len(b), few(b), few(old))
	}
	if want.err == api.OK {
		wantToldByItsBytes(t, b[:want.taken], old, want)
	}
}

func wantErr(t *testing.T, b, old []byte, err api.Errno) {
	t.Helper()
	wantRead(t, b, old, told{err: err})
}

// wantToldByItsBytes fails, unless a section is told alike whatever stands behind it, and is too short without any of its last bytes.
func wantToldByItsBytes(t *testing.T, section, old []byte, want told) {
	t.Helper()
	for _, behind := range [][]byte{nil, {0}, {255}, section, each(300, 1)} {
		if got := read(then(section, behind), old); !got.is(want) {
			t.Errorf("section %d with %d behind: %v; want %v", few(section), few(behind), got, want)
		}
	}
	for size := range len(section) {
		if size > 20 && size < len(section)-20 {
			continue
		}
		if got := read(section[:size], old); !got.is(told{err: api.ErrShort}) {
			t.Errorf("%d of the %d bytes of section %d: %v", size, len(section), few(section), got)
		}
	}
}

// P10.1

func TestSectionsWrittenOut(t *testing.T) {
	old := []byte{3, 2, 1, 1}
	of := []byte{2, 1, 1}
	l := []byte{0, 1, 2, 0} // 1, 00, 01, 1
	for _, c := range []struct {
		b, old []byte
		told
	}{
		// Raw: forms 0 and 2, 1, 3.
		{[]byte{0}, old, told{nil, old, 1, api.OK}},
		{[]byte{8, 7}, old, told{[]byte{7}, old, 2, api.OK}},
		{[]byte{16, 1, 2}, old, told{[]byte{1, 2}, old, 3, api.OK}},
		{[]byte{24, 1, 2, 3}, old, told{[]byte{1, 2, 3}, old, 4, api.OK}},
		{[]byte{4, 0}, old, told{nil, old, 2, api.OK}},
		{[]byte{0x24, 0, 1, 2}, old, told{[]byte{1, 2}, old, 4, api.OK}},
		{[]byte{12, 0, 0}, old, told{nil, old, 3, api.OK}},
		{[]byte{0x3c, 0, 0, 1, 2, 3}, old, told{[]byte{1, 2, 3}, old, 6, api.OK}},
		// Same.
		{[]byte{1, 5}, old, told{nil, old, 2, api.OK}},
		{[]byte{9, 5}, old, told{[]byte{5}, old, 2, api.OK}},
		{[]byte{17, 5}, old, told{[]byte{5, 5}, old, 2, api.OK}},
		{[]byte{25, 7}, old, told{[]byte{7, 7, 7}, old, 2, api.OK}},
		{[]byte{5, 0, 5}, old, told{nil, old, 3, api.OK}},
		{[]byte{0x35, 0, 5}, old, told{[]byte{5, 5, 5}, old, 3, api.OK}},
		{[]byte{5, 1, 5}, old, told{each(16, 5), old, 3, api.OK}},
		{[]byte{13, 0, 0, 5}, old, told{nil, old, 4, api.OK}},
		{[]byte{0x2d, 0, 0, 5}, old, told{[]byte{5, 5}, old, 4, api.OK}},
		{[]byte{13, 0, 1, 5}, old, told{each(4096, 5), old, 4, api.OK}},
		// Packed by weights that stand ahead: 129 33 are 2 1, and the last one.
		{[]byte{66, 192, 0, 129, 33, 99}, old, told{l, of, 6, api.OK}},
		{[]byte{66, 192, 0, 129, 33, 99}, nil, told{l, of, 6, api.OK}},
		{[]byte{70, 0, 3, 129, 33, 1, 0, 1, 0, 1, 0, 3, 4, 5, 3}, old, told{l, of, 15, api.OK}},
		{[]byte{74, 0, 0x30, 0, 129, 33, 1, 0, 1, 0, 1, 0, 3, 4, 5, 3}, old, told{l, of, 16, api.OK}},
		{[]byte{78, 0, 0, 3, 0, 129, 33, 1, 0, 1, 0, 1, 0, 3, 4, 5, 3}, old, told{l, of, 17, api.OK}},
		{[]byte{2, 192, 0, 129, 33, 1}, old, told{nil, of, 6, api.OK}},
		// Packed by those that count already.
		{[]byte{67, 64, 0, 99}, of, told{l, of, 4, api.OK}},
		{[]byte{71, 0x80, 2, 1, 0, 1, 0, 1, 0, 3, 4, 5, 3}, of, told{l, of, 13, api.OK}},
		{[]byte{75, 0, 0x28, 0, 1, 0, 1, 0, 1, 0, 3, 4, 5, 3}, of, told{l, of, 14, api.OK}},
		{[]byte{79, 0, 0x80, 2, 0, 1, 0, 1, 0, 1, 0, 3, 4, 5, 3}, of, told{l, of, 15, api.OK}},
		{[]byte{3, 64, 0, 1}, of, told{nil, of, 4, api.OK}},
	} {
		wantRead(t, c.b, c.old, c.told)
	}
}

// byHex are bytes of digits by 16.
func byHex(text string) []byte {
	b, err := hex.DecodeString(text)
	if err != nil {
		panic(err)
	}
	return b
}

// weightsFrom are noughts ahead of a symbol, and weights from it on, one digit each.
func weightsFrom(symbol byte, text string) []byte {
	l := make([]byte, symbol)
	for _, digit := range []byte(text) {
		l = append(l, digit-'0')
	}
	return l
}

// The sections were written by another program of the format.
func TestSectionsWrittenElsewhere(t *testing.T) {
	old := []byte{1, 1}
	wantRead(t, byHex("4861616161626262620a"), old, told{[]byte("aaaabbbb\n"), old, 10, api.OK})
	wantRead(t, byHex("256f78"), old, told{each(1778, 'x'), old, 3, api.OK})
	wantRead(t, byHex("0de20478"), old, told{each(20000, 'x'), old, 4, api.OK})

	// Their weights are told by states.
	water := []byte("the lighterman takes the file over the water, part by part; what is lost is asked for again")
	of := weightsFrom(' ', "500000000000200000000000000100000000000000000000000000000000000005101533440231232044501201")
	wantRead(t, byHex("b2051115c0251da0ad2439d9a42542cabd5be48a1dc4baee0945b59476080526aebce2ef185ef1a583805b0d1602bcd5e0607e0f9a4e33e1d0a6084de799e85974603e9532343d"), nil, told{water, of, 71, api.OK})
	wantRead(t, byHex("b3850b45b59476080526aebce2ef185ef1a583805b0d1602bcd5e0607e0f9a4e33e1d0a6084de799e85974603e9532343d"), of, told{water, of, 49, api.OK})

	more := bytes.Repeat(water, 3)
	wantRead(t, byHex("16d12915c0251da0ad2439d9a42542cabd5be48a1dc4baee0923002300230086577ce920e0568385006f353898df83a6d34c38b42942d379267a161d984fa50c4d0f0607f37bd0749a09873645683acf44cfa203f3a994a1e945b59476080526aebce2ef04349d67a267d181f954cad0f4a25a4a3b840213575ef1770caff8d241c0ad060b01de1a45b59476080526aebce2ef185ef1a583805b0d1602bcd5e0607e0f9a4e33e1d0a648"), old, told{more, of, 170, api.OK})
	more = bytes.Repeat(water, 4)
	wantRead(t, byHex("c7962f2e002e002e0045b59476080526aebce2ef185ef1a583805b0d1602bcd5e0607e0f9a4e33e1d0a6084de799e85974603e9532343d45b59476080526aebce2ef185ef1a583805b0d1602bcd5e0607e0f9a4e33e1d0a6084de799e85974603e9532343d45b59476080526aebce2ef185ef1a583805b0d1602bcd5e0607e0f9a4e33e1d0a6084de799e85974603e9532343d45b59476080526aebce2ef185ef1a583805b0d1602bcd5e0607e0f9a4e33e1d0a6084de799e85974603e9532343d"), of, told{more, of, 193, api.OK})
}

func TestReadOfHeadsThatLack(t *testing.T) {
	for first := range 256 {
		size := sizes[first%4][first/4%4]
		for _, fill := range []byte{0, 1, 128, 255} {
			b := then([]byte{byte(first)}, each(size-1, fill))
			for n := range b {
				// Also where the bytes that are there tell too many literals, or there are no weights.
				for _, old := range [][]byte{nil, {2, 1, 1}, {1}} {
					wantErr(t, b[:n], old, api.ErrShort)
				}
			}
		}
	}
	wantErr(t, nil, nil, api.ErrShort)
	wantErr(t, []byte{}, []byte{1, 1}, api.ErrShort)
}

// counts are edges of how many literals there are.
func counts() []int {
	return []int{0, 1, 2, 3, 4, 5, 6, 7, 30, 31, 32, 33, 255, 256, 1023, 1024, 4094, 4095, 4096, 4097, 16383, 16384, 65535, 65536, maxBlock - 1, maxBlock}
}

// tooMany are more literals than may be.
func tooMany() []int { return []int{maxBlock + 1, maxBlock + 2, 2*maxBlock - 2, 2*maxBlock - 1} }

func TestReadOfPlainLiterals(t *testing.T) {
	r := rand.New(rand.NewPCG(10, 1))
	for _, n := range counts() {
		l := someBytes(r, n)
		for form := range 4 {
			if !holds(kindRaw, form, n) {
				continue
			}
			// The weights are old, whatever they are.
			for _, old := range [][]byte{nil, {2, 1, 1}, {12}, each(300, 9)} {
				size := sizes[kindRaw][form]
				b := then(headOf(kindRaw, form, n, 0), l)
				wantRead(t, b, old, told{l, old, size + n, api.OK})
				wantRead(t, then(b, []byte{3, 4}), old, told{l, old, size + n, api.OK})
				if n > 0 {
					wantErr(t, b[:len(b)-1], old, api.ErrShort)
					wantErr(t, b[:size], old, api.ErrShort)
				}
				b = headOf(kindSame, form, n, 0)
				wantErr(t, b, old, api.ErrShort) // of 0 too
				for _, c := range []byte{0, 7, 255} {
					wantRead(t, then(b, []byte{c}), old, told{each(n, c), old, size + 1, api.OK})
					wantRead(t, then(b, []byte{c, 9, 9}), old, told{each(n, c), old, size + 1, api.OK})
				}
			}
		}
	}
}

func TestReadOfPackedLiterals(t *testing.T) {
	r := rand.New(rand.NewPCG(10, 2))
	for _, of := range [][]byte{{1, 1}, {2, 1, 1}, {11, 11}} {
		for _, n := range counts() {
			l := make([]byte, n)
			for i := range l {
				l[i] = byte(r.IntN(2))
			}
			for form := range 4 {
				if !holds(kindOld, form, n) || form > 0 && (n == 1 || n == 2 || n == 5) {
					continue
				}
				// By the weights ahead, whatever is old; by the old ones.
				b := sectionOf(kindFresh, form, l, of)
				for _, old := range [][]byte{nil, of, {1, 1, 2}, {1}} {
					wantRead(t, b, old, told{l, of, len(b), api.OK})
				}
				c := sectionOf(kindOld, form, l, of)
				wantRead(t, c, of, told{l, of, len(c), api.OK})
				wantErr(t, b[:len(b)-1], nil, api.ErrShort)
				wantErr(t, c[:len(c)-1], of, api.ErrShort)
			}
		}
	}
}

func TestReadOfTooManyLiterals(t *testing.T) {
	old := []byte{1, 1}
	for kind := range 4 {
		for _, n := range append(tooMany(), 1<<widths[kind][3]-1) {
			for _, packed := range []int{0, 1, 10, 20000, 1<<18 - 1} {
				if !isPacked(kind) {
					packed = 0
				}
				// Ahead of bytes that aren't there, weights that aren't or may not be, and all that they are packed in.
				b := headOf(kind, 3, n, packed)
				for _, behind := range [][]byte{nil, {0}, {1}, each(packed, 1), each(n, 7)} {
					wantErr(t, then(b, behind), old, api.ErrBig)
					wantErr(t, then(b, behind), nil, api.ErrBig)
					wantErr(t, then(b, behind), []byte{1}, api.ErrBig)
				}
			}
		}
	}
	streams := streamsOf(make([]byte, maxBlock), old, true)
	wantRead(t, packedSection(kindOld, 3, maxBlock, streams), old, told{make([]byte, maxBlock), old, 5 + len(streams), api.OK})
	wantErr(t, packedSection(kindOld, 3, maxBlock+1, streams), old, api.ErrBig)
}

// The numbers of both kinds of packed literals, one as great as the other, or none.
func TestReadOfPackedNumbers(t *testing.T) {
	for form := range 4 {
		most := 1<<widths[kindOld][form] - 1
		for _, packed := range []int{1, 2, most/2 + 1, most} {
			b := packedSection(kindOld, form, 0, each(packed, 1))
			wantErr(t, b, nil, api.ErrForm)
			wantErr(t, b[:len(b)-1], nil, api.ErrShort)
		}
		for _, n := range []int{3, 4, most/2 + 1, min(most, maxBlock)} {
			wantErr(t, headOf(kindFresh, form, n, 1), nil, api.ErrShort)
			wantErr(t, packedSection(kindFresh, form, n, []byte{128}), nil, api.ErrShort)
			wantErr(t, packedSection(kindFresh, form, n, []byte{128, 0xc0}), nil, api.ErrForm)
			// Nothing packed: bytes lack in no number.
			wantErr(t, headOf(kindFresh, form, n, 0), nil, api.ErrShort)
			wantErr(t, headOf(kindOld, form, n, 0), nil, api.ErrForm)
		}
	}
}

func TestReadOfDescriptions(t *testing.T) {
	for form := range 4 {
		// Of none of one stream; of three of four.
		n := min(3*form, 3)
		streams := streamsOf(make([]byte, n), []byte{1, 1}, form > 0)
		for _, c := range []struct {
			description []byte
			err         api.Errno
		}{
			// One weight: 1, 2; of nought, and above 11.
			{[]byte{128, 0x10}, api.OK}, {[]byte{128, 0x20}, api.OK}, {[]byte{128, 0xb0}, api.OK},
			{[]byte{128, 0}, api.ErrForm}, {[]byte{128, 0xc0}, api.ErrForm}, {[]byte{128, 0xff}, api.ErrForm},
			// What is left behind 3 1 is 3.
			{[]byte{129, 0x31}, api.ErrForm},
			// By states: without a byte; with counts up to too high a power; with counts and no bits.
			{[]byte{0}, api.ErrShort}, {[]byte{2, 255, 255}, api.ErrBig}, {then([]byte{30}, make([]byte, 30)), api.ErrForm},
		} {
			b := packedSection(kindFresh, form, n, c.description, streams)
			if c.err != api.OK {
				wantErr(t, b, []byte{1, 1}, c.err)
				// Ahead of what is wrong in the streams.
				wantErr(t, packedSection(kindFresh, form, n, c.description, each(20, 0)), nil, c.err)
				continue
			}
			want := []byte{c.description[1] >> 4, c.description[1] >> 4}
			wantRead(t, b, nil, told{make([]byte, n), want, len(b), api.OK})
		}
		wantErr(t, headOf(kindFresh, form, n, 0), []byte{1, 1}, api.ErrShort)
		wantErr(t, then(headOf(kindFresh, form, n, 0), []byte{128, 0x10, 1}), []byte{1, 1}, api.ErrShort)
	}
}

func TestReadOfDescriptionsThatLackBytes(t *testing.T) {
	descriptions := [][]byte{byHex("15c0251da0ad2439d9a42542cabd5be48a1dc4baee09")}
	for _, of := range good() {
		if len(of) <= 129 {
			descriptions = append(descriptions, describe(of))
		}
	}
	for _, d := range descriptions {
		for form := range 4 {
			for size := range d {
				// The bytes that lack stand behind the section; it doesn't have them.
				b := packedSection(kindFresh, form, 0, d[:size])
				wantErr(t, b, nil, api.ErrShort)
				wantErr(t, then(b, d[size:], []byte{1, 0, 1, 0, 1, 0, 1, 1, 1, 1}), []byte{1, 1}, api.ErrShort)
			}
			// It takes all the bytes: no streams are left, not even an empty one.
			b := packedSection(kindFresh, form, 0, d)
			want := api.ErrForm
			if form > 0 {
				want = api.ErrShort
			}
			wantErr(t, b, nil, want)
			wantErr(t, then(b, []byte{1, 0, 1, 0, 1, 0, 1, 1, 1, 1}), nil, want)
		}
	}
}

func TestReadOfOldWeights(t *testing.T) {
	for form := range 4 {
		for _, streams := range [][]byte{nil, {0}, {1}, {99}, {1, 0, 1, 0, 1, 0, 3, 4, 5, 3}, each(9, 0)} {
			for _, n := range []int{0, 1, 4, 900} {
				b := packedSection(kindOld, form, n, streams)
				wantErr(t, b, nil, api.ErrForm)
				wantErr(t, b, []byte{}, api.ErrForm)
				for _, old := range refused() {
					wantErr(t, b, old, api.ErrArg)
				}
				if len(streams) == 0 {
					continue
				}
				// Ahead of both, bytes that aren't there.
				for _, old := range append(refused(), nil) {
					wantErr(t, b[:len(b)-1], old, api.ErrShort)
				}
			}
		}
	}
	wantErr(t, []byte{3, 0, 0}, nil, api.ErrForm)
}

// wantFaults fails, unless both kinds of packed sections tell this of streams.
func wantFaults(t *testing.T, form, n int, of, streams []byte, err api.Errno) {
	t.Helper()
	wantErr(t, packedSection(kindOld, form, n, streams), of, err)
	wantErr(t, packedSection(kindFresh, form, n, describe(of), streams), nil, err)
	// What stands behind the section mends nothing.
	wantErr(t, then(packedSection(kindOld, form, n, streams), each(50, 1)), of, err)
}

func TestReadOfFaultsInOneStream(t *testing.T) {
	of := []byte{2, 1, 1}
	for _, c := range []struct {
		n       int
		streams []byte
		err     api.Errno
	}{
		// No bit that ends it.
		{0, nil, api.ErrForm}, {0, []byte{0}, api.ErrForm}, {4, nil, api.ErrForm}, {4, []byte{99, 0}, api.ErrForm},
		// Bits that lack, or are left: 1, 00, 01, 1 are four.
		{5, []byte{99}, api.ErrForm}, {6, []byte{99}, api.ErrForm}, {1023, []byte{99}, api.ErrForm}, {1, []byte{1}, api.ErrForm},
		{3, []byte{99}, api.ErrLeft}, {0, []byte{99}, api.ErrLeft}, {4, []byte{99, 1}, api.ErrLeft}, {4, []byte{0, 99}, api.ErrLeft},
		// Four streams.
		{4, []byte{1, 0, 1, 0, 1, 0, 3, 4, 5, 3}, api.ErrLeft},
	} {
		wantFaults(t, 0, c.n, of, c.streams, c.err)
	}
}

func TestReadOfFaultsInFourStreams(t *testing.T) {
	of := []byte{2, 1, 1}
	fine := []byte{1, 0, 1, 0, 1, 0, 3, 4, 5, 3} // 1; 00; 01; 1
	for form := 1; form < 4; form++ {
		// There are no four of so many, whatever the bytes.
		for _, n := range []int{1, 2, 5} {
			wantFaults(t, form, n, of, nil, api.ErrForm)
			wantFaults(t, form, n, of, fine, api.ErrForm)
			wantFaults(t, form, n, of, []byte{1, 0, 1, 0, 1, 0, 1, 1, 1, 1}, api.ErrForm)
		}
		for size := range 9 {
			wantFaults(t, form, 4, of, fine[:size], api.ErrShort)
		}
		// Without the last one's bytes.
		wantFaults(t, form, 4, of, fine[:9], api.ErrForm)
		wantFaults(t, form, 4, of, then(fine, []byte{0}), api.ErrForm)
		wantFaults(t, form, 4, of, then(fine, []byte{1}), api.ErrLeft)
		for at := range 3 {
			b := slices.Clone(fine)
			b[2*at] = 3
			wantFaults(t, form, 4, of, b, api.ErrShort)
		}
		for at := 6; at < 10; at++ {
			for _, c := range []struct {
				b   byte
				err api.Errno
			}{{0, api.ErrForm}, {1, api.ErrForm}, {255, api.ErrLeft}, {0b111, api.ErrLeft}} {
				b := slices.Clone(fine)
				b[at] = c.b
				wantFaults(t, form, 4, of, b, c.err)
			}
		}
		wantFaults(t, form, 3, of, fine, api.ErrLeft)
		wantFaults(t, form, 7, of, fine, api.ErrForm)
		// One stream.
		wantFaults(t, form, 4, of, []byte{99}, api.ErrShort)
	}
}

// someBytes are n of chance.
func someBytes(r *rand.Rand, n int) []byte {
	b := make([]byte, n)
	for i := range b {
		b[i] = byte(r.Uint32())
	}
	return b
}

// someLiterals are n of chance that have codes.
func someLiterals(r *rand.Rand, of []byte, n int) []byte {
	var fine []byte
	for symbol, w := range of {
		if w > 0 {
			fine = append(fine, byte(symbol))
		}
	}
	l := make([]byte, n)
	for i := range l {
		l[i] = fine[r.IntN(len(fine))]
	}
	return l
}

// P10.4

func TestAllShortSections(t *testing.T) {
	for _, old := range [][]byte{nil, {1, 1}, {2, 1, 1}} {
		for x := range 1 << 16 {
			for _, b := range [][]byte{{byte(x), byte(x >> 8)}, {byte(x), 64, 0, byte(x >> 8)}, {byte(x), 192, 0, 129, 33, byte(x >> 8)}} {
				if got, want := read(b, old), readInWords(b, old); !got.is(want) {
					t.Fatalf("%d, weights %d: %v; want %v", b, old, got, want)
				}
			}
		}
	}
}

func TestSectionsOfChance(t *testing.T) {
	r := rand.New(rand.NewPCG(10, 3))
	all := good()
	for range 10000 {
		b := someBytes(r, r.IntN(60))
		if len(b) > 3 && r.IntN(2) == 0 {
			b[1], b[2] = b[1]%4, b[2]%8
		}
		old := all[r.IntN(len(all))]
		wantRead(t, b, old, readInWords(b, old))
	}
	for range 10000 {
		old := all[r.IntN(len(all)-2)] // the last ones can't be described
		kind, form := kindFresh+r.IntN(2), r.IntN(4)
		b := spoilt(r, sectionOf(kind, form, someLiterals(r, old, 6+r.IntN(40)), old))
		wantRead(t, b, old, readInWords(b, old))
	}
}

// spoilt are bytes of which a few are changed, or not there, or more.
func spoilt(r *rand.Rand, b []byte) []byte {
	for range 1 + r.IntN(2) {
		if len(b) == 0 {
			return b
		}
		switch at := r.IntN(len(b)); r.IntN(5) {
		case 0:
			b[at] ^= 1 << r.IntN(8)
		case 1:
			b[min(at, 3)] ^= 1 << r.IntN(8)
		case 2:
			b = b[:at]
		case 3:
			b = append(b, byte(r.Uint32()))
		case 4:
			b = slices.Delete(b, at, at+1)
		}
	}
	return b
}

// P10.2 and P10.3

// wantWritten fails, unless what was written is this, which Read tells as these literals, with all its bytes, and these weights.
func wantWritten(t *testing.T, b []byte, err api.Errno, want, l, old, of []byte) {
	t.Helper()
	if !bytes.Equal(b, want) || err != api.OK {
		t.Errorf("%d literals %d: %d bytes %d, %d; want %d bytes %d", len(l), few(l), len(b), few(b), int(err), len(want), few(want))
		return
	}
	wantRead(t, b, old, told{l, of, len(b), api.OK})
}

// wantRefused fails, unless nothing was written but this error.
func wantRefused(t *testing.T, b []byte, err, want api.Errno) {
	t.Helper()
	if b != nil || err != want {
		t.Errorf("%d bytes %d, error %d; want error %d", len(b), few(b), int(err), int(want))
	}
}

// plainForm is the form of the shortest head of so many literals that aren't packed.
func plainForm(n int) int {
	switch {
	case n < 32:
		return 2 * (n % 2) // 0 or 2, by the number's lowest bit
	case n < 4096:
		return 1
	}
	return 3
}

func TestRaw(t *testing.T) {
	r := rand.New(rand.NewPCG(10, 4))
	for _, n := range counts() {
		l := someBytes(r, n)
		kept := slices.Clone(l)
		want := then(headOf(kindRaw, plainForm(n), n, 0), l)
		b, err := literals.Raw(l)
		for _, old := range [][]byte{nil, {2, 1, 1}, {1}} {
			wantWritten(t, b, err, want, kept, old, old)
		}
		clear(b)
		if !bytes.Equal(l, kept) {
			t.Errorf("%d literals were changed, or share memory with the answer", n)
		}
	}
	b, err := literals.Raw(nil)
	wantWritten(t, b, err, []byte{0}, nil, nil, nil)
	for _, n := range append(tooMany(), 1<<20-1, 1<<20, 1<<20+5) {
		b, err := literals.Raw(make([]byte, n))
		wantRefused(t, b, err, api.ErrArg)
	}
}

func TestSame(t *testing.T) {
	for _, n := range counts() {
		for _, c := range []byte{0, 7, 255} {
			want := then(headOf(kindSame, plainForm(n), n, 0), []byte{c})
			b, err := literals.Same(c, n)
			for _, old := range [][]byte{nil, {2, 1, 1}, {1}} {
				wantWritten(t, b, err, want, each(n, c), old, old)
			}
		}
	}
	for _, n := range append(tooMany(), -1, -2, -32, -maxBlock, 1<<20, 1<<20+5, math.MinInt32, math.MaxInt32, math.MinInt, math.MaxInt) {
		b, err := literals.Same(7, n)
		wantRefused(t, b, err, api.ErrArg)
	}
}

// At each length at which the head grows, by how many bytes there are.
func TestPlainHeadsGrow(t *testing.T) {
	for _, c := range []struct{ n, head int }{{0, 1}, {30, 1}, {31, 1}, {32, 2}, {33, 2}, {4094, 2}, {4095, 2}, {4096, 3}, {4097, 3}, {maxBlock, 3}} {
		raw, _ := literals.Raw(make([]byte, c.n))
		same, _ := literals.Same(0, c.n)
		if len(raw) != c.head+c.n || len(same) != c.head+1 {
			t.Errorf("%d literals: heads of %d, %d bytes; want %d", c.n, len(raw)-c.n, len(same)-1, c.head)
		}
	}
}

// packedForm is the lowest form of so many literals in so many bytes.
func packedForm(n, packed int) int {
	switch most := max(n, packed); {
	case n < 256:
		return 0
	case most < 1024:
		return 1
	case most < 16384:
		return 2
	}
	return 3
}

// wantPacked fails, unless literals are packed by weights, old ones and, if they can be described, fresh ones, in these forms.
func wantPacked(t *testing.T, l, of []byte, oldForm, freshForm int) {
	t.Helper()
	kept, keptOf := slices.Clone(l), slices.Clone(of)
	b, err := literals.Packed(l, of, false)
	wantWritten(t, b, err, sectionOf(kindOld, oldForm, l, of), l, of, of)
	if len(of) > 129 {
		c, err := literals.Packed(l, of, true)
		wantRefused(t, c, err, api.ErrBig)
		return
	}
	c, err := literals.Packed(l, of, true)
	want := sectionOf(kindFresh, freshForm, l, of)
	for _, old := range [][]byte{of, nil, {1, 1, 2}, {1}} {
		wantWritten(t, c, err, want, l, old, of)
	}
	clear(b)
	clear(c)
	if !bytes.Equal(l, kept) || !bytes.Equal(of, keptOf) {
		t.Errorf("%d literals, or weights %d, were changed, or share memory with the answer", len(l), few(keptOf))
	}
}

func TestPackedOfHowMany(t *testing.T) {
	r := rand.New(rand.NewPCG(10, 5))
	for _, n := range counts()[1:] {
		for _, of := range [][]byte{{1, 1}, {2, 1, 1}, falling(), each(128, 1), each(256, 1)} {
			if n == maxBlock && len(of) > 3 && testing.Short() {
				continue
			}
			l := someLiterals(r, of, n)
			packed := len(streamsOf(l, of, n >= 256))
			fresh := packed
			if len(of) <= 129 {
				fresh += len(describe(of))
			}
			wantPacked(t, l, of, packedForm(n, packed), packedForm(n, fresh))
		}
	}
	b, err := literals.Packed(nil, []byte{1, 1}, false)
	wantRefused(t, b, err, api.ErrArg)
	b, err = literals.Packed([]byte{}, []byte{1, 1}, true)
	wantRefused(t, b, err, api.ErrArg)
	for _, n := range tooMany() {
		for _, fresh := range []bool{false, true} {
			b, err := literals.Packed(make([]byte, n), []byte{1, 1}, fresh)
			wantRefused(t, b, err, api.ErrArg)
		}
	}
}

// One bit a literal, so that how many there are tells the form, and not what they are packed in.
func TestPackedFormsByHowManyLiterals(t *testing.T) {
	for _, c := range []struct{ n, form int }{{1, 0}, {2, 0}, {5, 0}, {255, 0}, {256, 1}, {1023, 1}, {1024, 2}, {16383, 2}, {16384, 3}, {maxBlock - 1, 3}, {maxBlock, 3}} {
		wantPacked(t, each(c.n, 1), []byte{1, 1}, c.form, c.form)
		b, _ := literals.Packed(each(c.n, 1), []byte{1, 1}, false)
		if int(b[0]) != kindOld+4*c.form+c.n%16*16 {
			t.Errorf("%d literals: first byte %b", c.n, b[0])
		}
	}
}

// filling are literals by falling weights, fewer than size, whose four streams have just so many bytes: nearly all of 11 bits, and, so that it comes out, some of 10.
func filling(size int) []byte {
	n := max(size*8/11-40, 256)
	for len(streamsOf(each(n, 11), falling(), true)) < size {
		n++
	}
	l := each(n, 11)
	for i := n - 1; len(streamsOf(l, falling(), true)) > size; i-- {
		l[i] = 9
	}
	if len(streamsOf(l, falling(), true)) != size {
		panic("streams of another size")
	}
	return l
}

// Eleven bits a literal, so that what they are packed in tells the form, and not how many there are.
func TestPackedFormsByPackedBytes(t *testing.T) {
	ahead := len(describe(falling()))
	for _, c := range []struct{ size, form int }{{1022, 1}, {1023, 1}, {1024, 2}, {1025, 2}, {16382, 2}, {16383, 2}, {16384, 3}, {16385, 3}} {
		l := filling(c.size)
		wantPacked(t, l, falling(), c.form, packedForm(len(l), c.size+ahead))
		l = filling(c.size - ahead)
		wantPacked(t, l, falling(), packedForm(len(l), c.size-ahead), c.form)
	}
	// Here the description makes the difference.
	wantPacked(t, filling(1023), falling(), 1, 2)
	wantPacked(t, filling(1024-ahead), falling(), 1, 2)
	wantPacked(t, filling(1023-ahead), falling(), 1, 1)
	wantPacked(t, filling(16383), falling(), 2, 3)
	wantPacked(t, filling(16384-ahead), falling(), 2, 3)
	wantPacked(t, filling(16383-ahead), falling(), 2, 2)
}

// The most bytes that one stream has, and four: no literals come to 2^10 in one, or to 2^18 in four; see section_test.go.
func TestPackedOfTheLongestCodes(t *testing.T) {
	wantPacked(t, each(255, 11), falling(), 0, 0)
	wantPacked(t, each(maxBlock, 11), falling(), 3, 3)
	deep := then(each(117, 0), falling()) // 129 of them: the longest description too
	wantPacked(t, each(255, 128), deep, 0, 0)
	wantPacked(t, each(256, 128), deep, 1, 1)
}

func TestPackedByManyWeights(t *testing.T) {
	for _, n := range []int{2, 3, 127, 128, 129, 130, 131, 255, 256} {
		of := make([]byte, n)
		of[0], of[n-1] = 3, 3
		last := byte(n - 1)
		for _, l := range [][]byte{{0}, {last}, {last, 0, last}, each(300, last)} {
			form := packedForm(len(l), 400)
			wantPacked(t, l, of, form, form) // fresh ones, if they are more than 129, are refused
		}
	}
}

func TestPackedRefuses(t *testing.T) {
	ask := func(l, of []byte, fresh bool, want api.Errno) {
		t.Helper()
		b, err := literals.Packed(l, of, fresh)
		wantRefused(t, b, err, want)
	}
	many := make([]byte, 130)
	many[0], many[129] = 1, 1
	for _, n := range []int{1, 255, 256, 257, 2000, maxBlock} {
		l := make([]byte, n)
		for _, of := range append(refused(), nil, []byte{}) {
			ask(l, of, true, api.ErrArg)
			ask(l, of, false, api.ErrArg)
		}
		// A byte that has no code, or is behind all weights: the first, the last, one between.
		for _, of := range [][]byte{{1, 0, 1}, {2, 0, 1, 1}, {1, 0, 0, 0, 0, 1}} {
			for _, at := range []int{0, n / 2, n - 1} {
				for _, c := range []byte{1, byte(len(of)), 255} {
					spoilt := slices.Clone(l)
					spoilt[at] = c
					ask(spoilt, of, true, api.ErrArg)
					ask(spoilt, of, false, api.ErrArg)
				}
			}
		}
		// More weights than can be written are told ahead of a byte that has no code.
		ask(l, many, true, api.ErrBig)
		ask(each(n, 1), many, true, api.ErrBig)
		ask(each(n, 1), many, false, api.ErrArg)
	}
	// How many literals there are is told ahead of all.
	for _, l := range [][]byte{nil, {}, make([]byte, maxBlock+1)} {
		for _, of := range append(refused(), nil, many, []byte{1, 1}) {
			ask(l, of, true, api.ErrArg)
			ask(l, of, false, api.ErrArg)
		}
	}
}

func TestPackedOfChance(t *testing.T) {
	r := rand.New(rand.NewPCG(10, 6))
	all := good()
	for range 300 {
		of := all[r.IntN(len(all))]
		n := 1 + r.IntN(600)
		if r.IntN(20) == 0 {
			n = 1 + r.IntN(20000)
		}
		l := someLiterals(r, of, n)
		packed := len(streamsOf(l, of, n >= 256))
		fresh := packed
		if len(of) <= 129 {
			fresh += len(describe(of))
		}
		wantPacked(t, l, of, packedForm(n, packed), packedForm(n, fresh))
	}
}

// Weights of what the literals are, as an encoder takes them.
func TestPackedByWeightsOfTheLiterals(t *testing.T) {
	for _, text := range []string{"ab", "abracadabra", strings.Repeat("a barge went by; ", 40), strings.Repeat("part by part ", 2000)} {
		often := make([]uint32, 256)
		for _, c := range []byte(text) {
			often[c]++
		}
		of, err := weights.Of(often)
		if err != api.OK {
			t.Fatal(err)
		}
		b, err := literals.Packed([]byte(text), of, true)
		if got := read(b, nil); err != api.OK || !got.is(told{[]byte(text), of, len(b), api.OK}) {
			t.Errorf("%q: %d, %v", text[:2], int(err), got)
		}
	}
}

func TestAnswersAreNewMemory(t *testing.T) {
	l, of := []byte{0, 1, 2, 0}, []byte{2, 1, 1}
	section := sectionOf(kindOld, 0, l, of)
	for _, ask := range []func() []byte{
		func() []byte { b, _ := literals.Raw(l); return b },
		func() []byte { b, _ := literals.Same(7, 3); return b },
		func() []byte { b, _ := literals.Packed(l, of, true); return b },
		func() []byte { b, _ := literals.Packed(l, of, false); return b },
		func() []byte { return read([]byte{16, 1, 2}, of).l },
		func() []byte { return read([]byte{25, 7}, of).l },
		func() []byte { return read([]byte{16, 1, 2}, of).weights },
		func() []byte { return read([]byte{25, 7}, of).weights },
		func() []byte { return read(section, of).l },
		func() []byte { return read(section, of).weights },
		func() []byte { return read(sectionOf(kindFresh, 0, l, of), nil).weights },
	} {
		one, other := ask(), ask()
		want := slices.Clone(other)
		clear(one[:cap(one)])
		if len(want) == 0 || !bytes.Equal(other, want) || !bytes.Equal(ask(), want) {
			t.Errorf("%d became %d", want, other)
		}
	}
}
