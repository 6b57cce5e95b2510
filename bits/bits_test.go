package bits_test

import (
	"bytes"
	"fmt"
	"math"
	"math/rand/v2"
	"slices"
	"strconv"
	"strings"
	"testing"

	"lighterman/api"
	"lighterman/bits"
)

func Example() {
	r, err := bits.NewBackward([]byte{13})
	fmt.Println(err == api.OK, r.Left())
	fmt.Println(r.Read(2), r.Left())
	// Output:
	// true 3
	// 2 1
}

func ExampleWriter() {
	w := bits.NewWriter()
	w.Write(5, 3)
	w.Write(300, 9)
	f := bits.NewForward(w.Out())
	first, _ := f.Read(3)
	second, _ := f.Read(9)
	fmt.Println(first, second, f.Used())
	r, _ := bits.NewBackward(w.Closed())
	fmt.Println(r.Read(9), r.Read(3), r.Left())
	// Output:
	// 5 300 2
	// 300 5 0
}

// unlike are n bytes of which neighbours are unlike, each half of a byte, too.
func unlike(n int) []byte {
	b := make([]byte, n)
	for i := range b {
		b[i] = byte(i*i*7 + i*131 + (i>>8)*17 + 0xb5)
	}
	return b
}

// turned are the digits from the end.
func turned(digits string) string {
	b := []byte(digits)
	slices.Reverse(b)
	return string(b)
}

// digits are the bits of bytes, a digit each, in the order of their numbers.
func digits(b []byte) string {
	var all strings.Builder
	for _, c := range b {
		all.WriteString(turned(fmt.Sprintf("%08b", c)))
	}
	return all.String()
}

// digitsOf are the lowest n bits of x, a digit each, the lowest first.
func digitsOf(x uint64, n int) string { return turned(fmt.Sprintf("%064b", x))[:n] }

// numberOf is that of digits, the first one the lowest.
func numberOf(digits string) uint64 {
	if digits == "" {
		return 0
	}
	x, err := strconv.ParseUint(turned(digits), 2, 64)
	if err != nil {
		panic(err)
	}
	return x
}

// bytesOf are those of digits, the last one filled up with noughts.
func bytesOf(digits string) []byte {
	var b []byte
	for len(digits) > 0 {
		n := min(8, len(digits))
		b = append(b, byte(numberOf(digits[:n])))
		digits = digits[n:]
	}
	return b
}

func wantBytes(t *testing.T, what string, got []byte, want ...byte) {
	t.Helper()
	if !bytes.Equal(got, want) {
		t.Errorf("%s: %08b, want %08b", what, got, want)
	}
}

// wantRead fails, unless Read(n) is this, and so many bytes are used behind it.
func wantRead(t *testing.T, f *bits.Forward, n int, x uint64, err api.Errno, used int) {
	t.Helper()
	gotX, gotErr := f.Read(n)
	if gotX != x || gotErr != err || f.Used() != used {
		t.Errorf("Read(%d), Used: %d, %d, %d; want %d, %d, %d", n, gotX, gotErr, f.Used(), x, err, used)
	}
}

// wantReadAt fails, unless f, which stands at a bit of all, reads n digits.
func wantReadAt(t *testing.T, f *bits.Forward, all string, at, n int) {
	t.Helper()
	if at+n > len(all) {
		wantRead(t, f, n, 0, api.ErrShort, (at+7)/8)
		return
	}
	wantRead(t, f, n, numberOf(all[at:at+n]), api.OK, (at+n+7)/8)
}

// wantBack fails, unless Read(n) is this, and so many bits are left behind it.
func wantBack(t *testing.T, r *bits.Backward, n int, x uint64, left int) {
	t.Helper()
	if got := r.Read(n); got != x || r.Left() != left {
		t.Errorf("Read(%d), Left: %d, %d; want %d, %d", n, got, r.Left(), x, left)
	}
}

// forwardAt is a Forward that stands at a bit.
func forwardAt(t *testing.T, b []byte, at int) *bits.Forward {
	t.Helper()
	f := bits.NewForward(b)
	for range at {
		if _, err := f.Read(1); err != api.OK {
			t.Fatalf("a bit ahead of bit %d: %d", at, err)
		}
	}
	return f
}

// backwardOf is a Backward of bytes that may be.
func backwardOf(t *testing.T, b []byte, left int) *bits.Backward {
	t.Helper()
	r, err := bits.NewBackward(b)
	if err != api.OK || r == nil {
		t.Fatalf("NewBackward(%v): %v, %d", b, r, err)
	}
	if r.Left() != left {
		t.Fatalf("NewBackward(%v), Left: %d, want %d", b, r.Left(), left)
	}
	return r
}

// P5.1

func TestForwardOfOneByteOfEachValue(t *testing.T) {
	for v := range 256 {
		b := []byte{byte(v)}
		wantRead(t, bits.NewForward(b), 8, uint64(v), api.OK, 1)
		for n := 1; n < 8; n++ {
			f := bits.NewForward(b)
			wantRead(t, f, n, uint64(v%(1<<n)), api.OK, 1)
			wantRead(t, f, 8-n, uint64(v>>n), api.OK, 1)
			wantRead(t, f, 1, 0, api.ErrShort, 1)
		}
	}
}

func TestForwardGoesOnFromCallToCall(t *testing.T) {
	f := bits.NewForward([]byte{0b10110_101, 0b011011_00, 0xff, 0x01, 0x80, 0x7e})
	if f.Used() != 0 {
		t.Errorf("Used at first: %d", f.Used())
	}
	wantRead(t, f, 3, 0b101, api.OK, 1)
	wantRead(t, f, 7, 0b00_10110, api.OK, 2)
	wantRead(t, f, 0, 0, api.OK, 2)
	wantRead(t, f, 6, 0b011011, api.OK, 2)
	wantRead(t, f, 0, 0, api.OK, 2)
	wantRead(t, f, 25, 0x8001ff, api.OK, 6)
	wantRead(t, f, 7, 0x3f, api.OK, 6)
	wantRead(t, f, 0, 0, api.OK, 6)
	wantRead(t, f, 1, 0, api.ErrShort, 6)
}

func TestForwardOfEachWidthAtEachBit(t *testing.T) {
	b := unlike(11)
	all := digits(b)
	for at := range len(all) + 1 {
		for n := range 33 {
			f := forwardAt(t, b, at)
			wantReadAt(t, f, all, at, n)
			next := at
			if at+n <= len(all) {
				next += n
			}
			wantReadAt(t, f, all, next, min(32, len(all)-next))
		}
	}
}

func TestForwardReadAtItsEdges(t *testing.T) {
	ones := bytes.Repeat([]byte{255}, 5)
	f := bits.NewForward(ones)
	wantRead(t, f, 32, 1<<32-1, api.OK, 4)
	wantRead(t, f, 8, 255, api.OK, 5)
	f = forwardAt(t, ones, 7)
	wantRead(t, f, 32, 1<<32-1, api.OK, 5)
	wantRead(t, f, 1, 1, api.OK, 5)
	wantRead(t, bits.NewForward([]byte{0, 0, 0, 128}), 32, 1<<31, api.OK, 4)
	wantRead(t, bits.NewForward(make([]byte, 4)), 32, 0, api.OK, 4)
}

func TestForwardReadOfNoSuchWidth(t *testing.T) {
	for _, n := range []int{33, 34, 56, 57, 64, -1, -8, math.MinInt, math.MaxInt} {
		for _, at := range []int{0, 3, 48} {
			f := forwardAt(t, unlike(6), at)
			wantRead(t, f, n, 0, api.ErrArg, (at+7)/8)
			wantReadAt(t, f, digits(unlike(6)), at, min(5, 48-at))
		}
		wantRead(t, bits.NewForward(nil), n, 0, api.ErrArg, 0)
	}
}

func TestForwardStaysWhereBitsLack(t *testing.T) {
	b := []byte{0xa7, 0x3c}
	f := forwardAt(t, b, 5)
	for _, n := range []int{32, 13, 12} {
		wantRead(t, f, n, 0, api.ErrShort, 1)
	}
	wantRead(t, f, 11, 0x3ca7>>5, api.OK, 2)
	wantRead(t, f, 1, 0, api.ErrShort, 2)
	wantRead(t, f, 0, 0, api.OK, 2)
}

func TestForwardOfNothing(t *testing.T) {
	for _, b := range [][]byte{nil, {}} {
		f := bits.NewForward(b)
		wantRead(t, f, 0, 0, api.OK, 0)
		wantRead(t, f, 1, 0, api.ErrShort, 0)
		wantRead(t, f, 32, 0, api.ErrShort, 0)
		f.Back(1)
		wantRead(t, f, 0, 0, api.OK, 0)
	}
}

func TestForwardUsedBehindEachBit(t *testing.T) {
	f := bits.NewForward(unlike(4))
	for at := range 32 {
		if f.Used() != (at+7)/8 {
			t.Errorf("Used at bit %d: %d", at, f.Used())
		}
		f.Read(1)
	}
	if f.Used() != 4 {
		t.Errorf("Used at the end: %d", f.Used())
	}
}

func TestForwardBackFromEachBit(t *testing.T) {
	b := unlike(5)
	all := digits(b)
	for at := range len(all) + 1 {
		for n := range len(all) + 3 {
			f := forwardAt(t, b, at)
			f.Back(n)
			now := max(at-n, 0)
			if f.Used() != (now+7)/8 {
				t.Errorf("Used at bit %d, %d further ahead: %d", at, n, f.Used())
			}
			wantReadAt(t, f, all, now, 9)
		}
	}
}

func TestForwardBackAtItsEdges(t *testing.T) {
	b := []byte{0xa7, 0x3c, 0x5d}
	for _, c := range []struct{ n, now int }{
		{0, 17}, {1, 16}, {16, 1}, {17, 0}, {18, 0}, {1000, 0}, {math.MaxInt, 0},
		{-1, 17}, {-7, 17}, {-17, 17}, {math.MinInt, 17},
	} {
		f := forwardAt(t, b, 17)
		f.Back(c.n)
		if f.Used() != (c.now+7)/8 {
			t.Errorf("Used behind Back(%d): %d", c.n, f.Used())
		}
		wantRead(t, f, 7, 0x5d3ca7>>c.now%128, api.OK, (c.now+7+7)/8)
	}
}

func TestForwardBackAgain(t *testing.T) {
	f := bits.NewForward([]byte{0xa7, 0x3c})
	wantRead(t, f, 16, 0x3ca7, api.OK, 2)
	f.Back(4)
	f.Back(4)
	wantRead(t, f, 9, 0, api.ErrShort, 1)
	wantRead(t, f, 4, 0xc, api.OK, 2)
	f.Back(99)
	wantRead(t, f, 16, 0x3ca7, api.OK, 2)
	f.Back(16)
	f.Back(1)
	wantRead(t, f, 8, 0xa7, api.OK, 1)
}

func TestForwardKeepsNoArgument(t *testing.T) {
	b := []byte{1, 2, 3}
	f := bits.NewForward(b)
	b[0], b[2] = 50, 60
	wantRead(t, f, 24, 0x030201, api.OK, 3)
	wantBytes(t, "what was handed in", b, 50, 2, 60)
}

func TestForwardsKeepApart(t *testing.T) {
	b := []byte{1, 2, 3}
	one, other := bits.NewForward(b), bits.NewForward(b)
	wantRead(t, one, 10, 0x201, api.OK, 2)
	wantRead(t, other, 8, 1, api.OK, 1)
	one.Back(10)
	wantRead(t, other, 8, 2, api.OK, 2)
}

func TestNilForward(t *testing.T) {
	var f *bits.Forward
	for _, n := range []int{0, 1, 32, 33, -1, math.MinInt, math.MaxInt} {
		wantRead(t, f, n, 0, api.ErrArg, 0)
		f.Back(n)
	}
	wantRead(t, f, 0, 0, api.ErrArg, 0)
}

// P5.2

func TestBackwardOfNoSuchBytes(t *testing.T) {
	for _, b := range [][]byte{nil, {}, {0}, {1, 0}, {255, 255, 255, 0}, make([]byte, 9)} {
		if r, err := bits.NewBackward(b); r != nil || err != api.ErrForm {
			t.Errorf("NewBackward(%v): %v, %d", b, r, err)
		}
	}
}

func TestBackwardOfOneByteOfEachValue(t *testing.T) {
	for v := 1; v < 256; v++ {
		b := []byte{byte(v)}
		size := len(fmt.Sprintf("%b", v)) - 1
		below := uint64(v - 1<<size)
		if r := backwardOf(t, b, size); size > 0 {
			wantBack(t, r, size, below, 0)
		}
		r := backwardOf(t, b, size)
		for left := size - 1; left >= 0; left-- {
			wantBack(t, r, 1, below>>left%2, left)
		}
		wantBack(t, r, 1, 0, -1)
		wantBack(t, backwardOf(t, b, size), 56, below<<(56-size), size-56)
	}
}

func TestBackwardOfEachLastByte(t *testing.T) {
	for v := 1; v < 256; v++ {
		size := len(fmt.Sprintf("%b", v)) - 1
		below := uint64(v - 1<<size)
		r := backwardOf(t, []byte{0x5a, 0xc3, byte(v)}, 16+size)
		wantBack(t, r, size+4, below<<4|0xc, 12)
		wantBack(t, r, 8, 0x35, 4)
		wantBack(t, r, 4, 0xa, 0)
	}
}

func TestBackwardOfNoughtsAhead(t *testing.T) {
	r := backwardOf(t, []byte{0, 0, 1}, 16)
	wantBack(t, r, 16, 0, 0)
	wantBack(t, r, 16, 0, -16)
}

func TestBackwardOfEachWidthAtEachBit(t *testing.T) {
	for top := range 8 {
		b := unlike(12)
		b[11] = b[11]>>1%(1<<top) | 1<<top
		all := digits(b)[:88+top]
		for n := 1; n <= 56; n++ {
			for skip := range len(all) + 3 {
				r := backwardOf(t, b, len(all))
				for range skip {
					r.Read(1)
				}
				left := len(all) - skip
				padded := strings.Repeat("0", 64) + all[:max(left, 0)]
				wantBack(t, r, n, numberOf(padded[len(padded)-n:]), left-n)
			}
		}
	}
}

func TestBackwardReadAtItsEdges(t *testing.T) {
	r := backwardOf(t, bytes.Repeat([]byte{255}, 15), 119)
	wantBack(t, r, 56, 1<<56-1, 63)
	wantBack(t, r, 7, 127, 56)
	wantBack(t, r, 56, 1<<56-1, 0)
	wantBack(t, r, 56, 0, -56)
	r = backwardOf(t, []byte{0b11}, 1)
	wantBack(t, r, 56, 1<<55, -55)
	r = backwardOf(t, []byte{0, 0, 0, 0, 0, 0, 128, 1}, 56)
	wantBack(t, r, 56, 1<<55, 0)
	r = backwardOf(t, []byte{1, 0, 0, 0, 0, 0, 0, 1}, 56)
	wantBack(t, r, 56, 1, 0)
}

func TestBackwardReadOfNoSuchWidth(t *testing.T) {
	for _, n := range []int{0, -1, -8, 57, 58, 64, math.MinInt, math.MaxInt} {
		r := backwardOf(t, []byte{0x5a, 0b1101}, 11)
		wantBack(t, r, n, 0, 11)
		wantBack(t, r, 5, 0b101_01, 6)
		wantBack(t, r, n, 0, 6)
		wantBack(t, r, 6, 0x5a%64, 0)
		wantBack(t, r, n, 0, 0)
		wantBack(t, r, 3, 0, -3)
		wantBack(t, r, n, 0, -3)
		wantBack(t, backwardOf(t, bytes.Repeat([]byte{255}, 20), 159), n, 0, 159)
	}
}

func TestBackwardWhereBitsLack(t *testing.T) {
	r := backwardOf(t, []byte{13}, 3)
	wantBack(t, r, 1, 1, 2)
	wantBack(t, r, 5, 0b01_000, -3)
	wantBack(t, r, 2, 0, -5)
	wantBack(t, r, 56, 0, -61)
	wantBack(t, r, 1, 0, -62)
	wantBack(t, backwardOf(t, []byte{13}, 3), 4, 0b101_0, -1)
	wantBack(t, backwardOf(t, []byte{1}, 0), 4, 0, -4)
}

func TestBackwardKeepsNoArgument(t *testing.T) {
	b := []byte{1, 2, 3}
	r := backwardOf(t, b, 17)
	b[0], b[1], b[2] = 50, 60, 0
	wantBack(t, r, 17, 0x10201, 0)
	wantBytes(t, "what was handed in", b, 50, 60, 0)
}

func TestBackwardsKeepApart(t *testing.T) {
	b := []byte{1, 2, 3}
	one, other := backwardOf(t, b, 17), backwardOf(t, b, 17)
	wantBack(t, one, 9, 0x102, 8)
	wantBack(t, other, 1, 1, 16)
	wantBack(t, one, 8, 1, 0)
	wantBack(t, other, 16, 0x201, 0)
}

func TestNilBackward(t *testing.T) {
	var r *bits.Backward
	for _, n := range []int{0, 1, 56, 57, -1, math.MinInt, math.MaxInt} {
		wantBack(t, r, n, 0, 0)
	}
}

func TestBackwardOfManyBytes(t *testing.T) {
	if testing.Short() {
		t.Skip("2^29 bytes are left out: they take seconds")
	}
	b := make([]byte, 1<<29+2)
	copy(b[1<<29-1:], []byte{0x5a, 0xc3, 0b101})
	r := backwardOf(t, b, 1<<32+8+2)
	wantBack(t, r, 10, 0b01_11000011, 1<<32)
	wantBack(t, r, 12, 0x5a0, 1<<32-12)
}

// P5.3

func TestWriterOfNothing(t *testing.T) {
	w := bits.NewWriter()
	wantBytes(t, "Out", w.Out())
	wantBytes(t, "Closed", w.Closed(), 1)
}

func TestWriterOfSoManyBits(t *testing.T) {
	for _, c := range []struct {
		n           int
		out, closed []byte
	}{
		{1, []byte{0x01}, []byte{0b11}},
		{2, []byte{0x01}, []byte{0b101}},
		{6, []byte{0x21}, []byte{0b1100001}},
		{7, []byte{0x61}, []byte{0b11100001}},
		{8, []byte{0x61}, []byte{0x61, 1}},
		{9, []byte{0x61, 1}, []byte{0x61, 0b11}},
		{15, []byte{0x61, 0x43}, []byte{0x61, 0xc3}},
		{16, []byte{0x61, 0xc3}, []byte{0x61, 0xc3, 1}},
		{17, []byte{0x61, 0xc3, 0}, []byte{0x61, 0xc3, 0b10}},
		{24, []byte{0x61, 0xc3, 0x84}, []byte{0x61, 0xc3, 0x84, 1}},
		{55, []byte{0x61, 0xc3, 0x84, 0xa5, 0x10, 0x32, 0x6b}, []byte{0x61, 0xc3, 0x84, 0xa5, 0x10, 0x32, 0xeb}},
		{56, []byte{0x61, 0xc3, 0x84, 0xa5, 0x10, 0x32, 0xeb}, []byte{0x61, 0xc3, 0x84, 0xa5, 0x10, 0x32, 0xeb, 1}},
	} {
		w := bits.NewWriter()
		w.Write(0xffeb3210a584c361, c.n)
		wantBytes(t, fmt.Sprintf("Out of %d bits", c.n), w.Out(), c.out...)
		wantBytes(t, fmt.Sprintf("Closed of %d bits", c.n), w.Closed(), c.closed...)
	}
}

func TestWriterOfOneByteOfEachValue(t *testing.T) {
	for v := range 256 {
		for n := 1; n < 8; n++ {
			w := bits.NewWriter()
			w.Write(uint64(v), n)
			w.Write(uint64(v>>n), 8-n)
			wantBytes(t, "Out", w.Out(), byte(v))
			wantBytes(t, "Closed", w.Closed(), byte(v), 1)
		}
	}
}

func TestWriterOfTwoWidths(t *testing.T) {
	for n := 1; n <= 56; n++ {
		for m := 1; m <= 56; m++ {
			w := bits.NewWriter()
			w.Write(math.MaxUint64, n)
			w.Write(0, m)
			w.Write(math.MaxUint64, 1)
			all := strings.Repeat("1", n) + strings.Repeat("0", m) + "1"
			wantBytes(t, fmt.Sprintf("Out of %d ones, %d noughts and 1", n, m), w.Out(), bytesOf(all)...)
			wantBytes(t, fmt.Sprintf("Closed of %d ones, %d noughts and 1", n, m), w.Closed(), bytesOf(all+"1")...)
		}
	}
}

func TestWriterLeavesBitsAbove(t *testing.T) {
	for n := 1; n <= 56; n++ {
		w := bits.NewWriter()
		w.Write(5, 3)
		w.Write(uint64(math.MaxUint64)<<n, n)
		w.Write(math.MaxUint64-1, 1)
		w.Write(1<<63|3, 2)
		all := "101" + strings.Repeat("0", n) + "0" + "11"
		wantBytes(t, fmt.Sprintf("Out, bits above the lowest %d set", n), w.Out(), bytesOf(all)...)
		wantBytes(t, fmt.Sprintf("Closed, bits above the lowest %d set", n), w.Closed(), bytesOf(all+"1")...)
	}
}

func TestWriterOfNoSuchWidth(t *testing.T) {
	for _, n := range []int{0, -1, -8, 57, 58, 64, 65, math.MinInt, math.MaxInt} {
		w := bits.NewWriter()
		w.Write(math.MaxUint64, n)
		wantBytes(t, "Out", w.Out())
		wantBytes(t, "Closed", w.Closed(), 1)
		w.Write(2, 3)
		w.Write(math.MaxUint64, n)
		wantBytes(t, "Out", w.Out(), 0b010)
		wantBytes(t, "Closed", w.Closed(), 0b1010)
		w.Write(3, 5)
		w.Write(math.MaxUint64, n)
		wantBytes(t, "Out", w.Out(), 0b00011010)
		wantBytes(t, "Closed", w.Closed(), 0b00011010, 1)
	}
}

func TestWriterGoesOnBehindOutAndClosed(t *testing.T) {
	for n := 1; n <= 17; n++ {
		w := bits.NewWriter()
		all := ""
		for i := range 9 {
			x := uint64(i*i*40503 + 77)
			w.Write(x, n)
			all += digitsOf(x, n)
			for range 2 {
				wantBytes(t, "Out", w.Out(), bytesOf(all)...)
				wantBytes(t, "Closed", w.Closed(), bytesOf(all+"1")...)
			}
		}
	}
}

func TestWriterAnswersNewMemory(t *testing.T) {
	for _, n := range []int{12, 16} {
		w := bits.NewWriter()
		w.Write(0xabcd, n)
		out, closed := w.Out(), w.Closed()
		keptOut, keptClosed := bytes.Clone(out), bytes.Clone(closed)
		w.Write(math.MaxUint64, 4)
		wantBytes(t, "Out ahead of Write", out, keptOut...)
		wantBytes(t, "Closed ahead of Write", closed, keptClosed...)
		for _, b := range [][]byte{out, closed, w.Out(), w.Closed()} {
			clear(b)
			_ = append(b, 255, 255)
		}
		w.Write(0, 56)
		all := digitsOf(0xabcd, n) + "1111" + strings.Repeat("0", 56)
		wantBytes(t, "Out", w.Out(), bytesOf(all)...)
		wantBytes(t, "Closed", w.Closed(), bytesOf(all+"1")...)
	}
}

func TestWritersKeepApart(t *testing.T) {
	one, other := bits.NewWriter(), bits.NewWriter()
	one.Write(5, 3)
	wantBytes(t, "the other one", other.Out())
	other.Write(2, 2)
	one.Write(3, 2)
	wantBytes(t, "one", one.Out(), 0b11_101)
	wantBytes(t, "the other one", other.Closed(), 0b1_10)
}

func TestNilWriter(t *testing.T) {
	var w *bits.Writer
	for _, n := range []int{1, 56, 0, 57, -1} {
		w.Write(math.MaxUint64, n)
		wantBytes(t, "Out of nil", w.Out())
		wantBytes(t, "Closed of nil", w.Closed())
	}
}

// P5.4

// item is a number that is written, and in how many bits.
type item struct {
	x uint64
	n int
}

// below is what is written of it.
func (i item) below() uint64 { return i.x % (1 << i.n) }

// written is a Writer of items, and their digits.
func written(items []item) (*bits.Writer, string) {
	w := bits.NewWriter()
	var all strings.Builder
	for _, i := range items {
		w.Write(i.x, i.n)
		all.WriteString(digitsOf(i.x, i.n))
	}
	return w, all.String()
}

// wantFromFront fails, unless the items are read in their order; those that
// are too wide for one Read in two.
func wantFromFront(t *testing.T, items []item, b []byte) {
	t.Helper()
	f := bits.NewForward(b)
	at := 0
	for k, i := range items {
		n := min(i.n, 32)
		at += i.n
		x, err := f.Read(n)
		high, errHigh := f.Read(i.n - n)
		x |= high << n
		if x != i.below() || err != api.OK || errHigh != api.OK || f.Used() != (at+7)/8 {
			t.Fatalf("item %d, of %d bits, from the front: %d, %d, %d, %d bytes; want %d", k, i.n, x, err, errHigh, f.Used(), i.below())
		}
	}
}

// wantFromBack fails, unless the items are read in the other order, and no
// bit is left.
func wantFromBack(t *testing.T, items []item, b []byte, size int) {
	t.Helper()
	r := backwardOf(t, b, size)
	for k := len(items) - 1; k >= 0; k-- {
		size -= items[k].n
		x := r.Read(items[k].n)
		if x != items[k].below() || r.Left() != size {
			t.Fatalf("item %d, of %d bits, from the back: %d, %d left; want %d, %d", k, items[k].n, x, r.Left(), items[k].below(), size)
		}
	}
	if r.Read(9) != 0 || r.Left() != -9 {
		t.Fatalf("behind all items: %d left", r.Left())
	}
}

func wantBothWays(t *testing.T, items []item) {
	t.Helper()
	w, all := written(items)
	wantBytes(t, "Out", w.Out(), bytesOf(all)...)
	wantBytes(t, "Closed", w.Closed(), bytesOf(all+"1")...)
	wantFromFront(t, items, w.Out())
	wantFromFront(t, append(slices.Clone(items), item{1, 1}), w.Closed())
	wantFromBack(t, items, w.Closed(), len(all))
}

func TestWrittenIsReadBothWays(t *testing.T) {
	wantBothWays(t, nil)
	for n := 1; n <= 56; n++ {
		for m := 1; m <= 56; m++ {
			wantBothWays(t, []item{{0xa1b2c3d4e5f60718, n}, {0x1e6f5a4b3c2d9807 >> (n % 3), m}, {5, 3}})
		}
	}
}

func TestWrittenIsReadInRowsOfOneWidth(t *testing.T) {
	for n := 1; n <= 56; n++ {
		var items []item
		for i := range 100 {
			items = append(items, item{uint64(i+1) * 0x9e3779b97f4a7c15, n})
		}
		wantBothWays(t, items)
	}
}

func TestWrittenIsReadInRowsOfManyWidths(t *testing.T) {
	r := rand.New(rand.NewPCG(5, 4))
	for range 300 {
		widest := 1 + r.IntN(56)
		items := make([]item, r.IntN(200))
		for i := range items {
			items[i] = item{r.Uint64(), 1 + r.IntN(widest)}
		}
		wantBothWays(t, items)
	}
}

// However the bits are cut, they are the same.
func TestWrittenIsReadInOtherPieces(t *testing.T) {
	r := rand.New(rand.NewPCG(5, 5))
	for range 300 {
		items := make([]item, 1+r.IntN(60))
		for i := range items {
			items[i] = item{r.Uint64(), 1 + r.IntN(56)}
		}
		w, all := written(items)
		f := bits.NewForward(w.Out())
		for at := 0; at < len(all); {
			n := min(r.IntN(33), len(all)-at)
			wantReadAt(t, f, all, at, n)
			at += n
		}
		back := backwardOf(t, w.Closed(), len(all))
		for left := len(all); left > 0; {
			n := min(1+r.IntN(56), left)
			wantBack(t, back, n, numberOf(all[left-n:left]), left-n)
			left -= n
		}
	}
}
