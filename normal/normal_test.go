package normal_test

import (
	"bytes"
	"fmt"
	"math"
	"math/rand/v2"
	"slices"
	"strconv"
	"strings"
	"testing"

	"lighterman/api"
	"lighterman/normal"
)

func Example() {
	fmt.Println(normal.Check(normal.Counts{Log: 5, Part: []int{16, 16}}, 9) == api.OK)
	// Output:
	// true
}

func ExampleRead() {
	c, err := normal.Of([]uint32{300, 0, 0, 100}, 5)
	fmt.Println(c, err == api.OK)
	b, err := normal.Write(c)
	fmt.Println(len(b), err == api.OK)
	again, used, err := normal.Read(append(b, 7, 8), 9, 256)
	fmt.Println(again, used, err == api.OK)
	// Output:
	// {5 [24 0 0 8]} true
	// 3 true
	// {5 [24 0 0 8]} 3 true
}

const symbols = 256 // that counts may have

// laid are bytes of fields one behind the other, each a number in digits of 2, its highest bit first.
func laid(fields ...string) []byte {
	var digits strings.Builder
	for _, field := range fields {
		digits.WriteString(turned(field))
	}
	return bytesOf(digits.String())
}

func turned(digits string) string {
	b := []byte(digits)
	slices.Reverse(b)
	return string(b)
}

// numberOf is that of digits, the first one the lowest.
func numberOf(digits string) int {
	x, err := strconv.ParseInt("0"+turned(digits), 2, 64)
	if err != nil {
		panic(err)
	}
	return int(x)
}

// bytesOf are those of digits, the last one filled up with noughts.
func bytesOf(digits string) []byte {
	var b []byte
	for len(digits) > 0 {
		n := min(8, len(digits))
		b = append(b, byte(numberOf(digits[:n])))
		digits = digits[n:]
	}
	return b
}

// digitsOf are the bits of bytes, a digit each, in the order in which they are read.
func digitsOf(b []byte) string {
	var digits strings.Builder
	for _, c := range b {
		digits.WriteString(turned(fmt.Sprintf("%08b", c)))
	}
	return digits.String()
}

// told is what the promise says of a description, in its own words, on digits.
func told(b []byte, most, symbols int) (c normal.Counts, used int, err api.Errno) {
	digits, at := digitsOf(b), 0
	defer func() {
		if recover() != nil {
			c, used, err = normal.Counts{}, 0, api.ErrShort
		}
	}()
	read := func(n int) int {
		at += n
		return numberOf(digits[at-n : at])
	}
	log := read(4) + 5
	if log > most || log > 15 {
		return c, 0, api.ErrBig
	}
	var parts []int
	left := int(math.Pow(2, float64(log)))
	for left > 0 {
		n := len(strconv.FormatInt(int64(left)+1, 2))
		power := int(math.Pow(2, float64(n)))
		v := read(n - 1)
		free := power - 2 - left
		if v >= free && read(1) == 1 {
			v += power/2 - free
		}
		parts = append(parts, v-1)
		if v == 0 {
			left--
		} else {
			left -= v - 1
		}
		for again := v == 1; again; {
			two := read(2)
			parts = append(parts, make([]int, two)...)
			again = two == 3
		}
		if len(parts) > symbols || left < 0 {
			return c, 0, api.ErrForm
		}
	}
	return normal.Counts{Log: log, Part: parts}, (at + 7) / 8, api.OK
}

// fine tells whether counts may be, by the words of it.
func fine(c normal.Counts) bool {
	sum := 0.0
	for _, part := range c.Part {
		if part < -1 {
			return false
		}
		sum += math.Abs(float64(part))
	}
	n := len(c.Part)
	return c.Log >= 5 && c.Log <= 15 && n >= 1 && n <= 256 && c.Part[n-1] != 0 && sum == math.Pow(2, float64(c.Log))
}

func same(a, b normal.Counts) bool { return a.Log == b.Log && slices.Equal(a.Part, b.Part) }

func wantCheck(t *testing.T, c normal.Counts, most int, want api.Errno) {
	t.Helper()
	kept := slices.Clone(c.Part)
	if err := normal.Check(c, most); err != want {
		t.Errorf("Check(%v, %d): %d, want %d", c, most, err, want)
	}
	if !slices.Equal(c.Part, kept) {
		t.Errorf("Check changed %v to %v", kept, c.Part)
	}
}

// wantRead fails, unless Read tells this; beside an error nothing else may be told.
func wantRead(t *testing.T, b []byte, most, symbols int, want normal.Counts, used int, wantErr api.Errno) {
	t.Helper()
	kept := bytes.Clone(b)
	c, n, err := normal.Read(b, most, symbols)
	if !same(c, want) || n != used || err != wantErr {
		t.Errorf("Read(%d, %d, %d): %v, %d, %d; want %v, %d, %d", b, most, symbols, c, n, err, want, used, wantErr)
	}
	if err != api.OK && c.Part != nil {
		t.Errorf("Read(%d, %d, %d): parts %v beside error %d", b, most, symbols, c.Part, err)
	}
	if !bytes.Equal(b, kept) {
		t.Errorf("Read changed %d to %d", kept, b)
	}
}

func wantReadErr(t *testing.T, b []byte, most, symbols int, want api.Errno) {
	t.Helper()
	wantRead(t, b, most, symbols, normal.Counts{}, 0, want)
}

// wantTold fails, unless Read tells what the promise says.
func wantTold(t *testing.T, b []byte, most, symbols int) {
	t.Helper()
	c, used, err := told(b, most, symbols)
	wantRead(t, b, most, symbols, c, used, err)
}

func wantWritten(t *testing.T, c normal.Counts, want []byte) {
	t.Helper()
	b, err := normal.Write(c)
	if err != api.OK || !bytes.Equal(b, want) {
		t.Errorf("Write(%v): %08b, %d; want %08b", c, b, err, want)
	}
}

// wantThereAndBack fails, unless counts are read as they were written, by both readers, with all bytes of them.
func wantThereAndBack(t *testing.T, c normal.Counts) {
	t.Helper()
	kept := slices.Clone(c.Part)
	b, err := normal.Write(c)
	if err != api.OK || !slices.Equal(c.Part, kept) {
		t.Fatalf("Write(%v): %d; the parts were %v", c, err, kept)
	}
	wantRead(t, b, 15, symbols, c, len(b), api.OK)
	wantRead(t, b, c.Log, len(c.Part), c, len(b), api.OK)
	wantRead(t, append(b[:len(b):len(b)], 0, 255, 7), 15, symbols, c, len(b), api.OK)
	if by, used, err := told(b, 15, symbols); !same(by, c) || used != len(b) || err != api.OK {
		t.Errorf("Write(%v): %08b, which tells %v, %d, %d", c, b, by, used, err)
	}
}

func wantOf(t *testing.T, often []uint32, log int, want ...int) {
	t.Helper()
	c, err := normal.Of(often, log)
	if err != api.OK || c.Log != log || !slices.Equal(c.Part, want) {
		t.Errorf("Of(%d, %d): %v, %d; want %d", often, log, c, err, want)
	}
}

// wantCounts fails, unless Of tells counts that may be, with a part of just each symbol that is.
func wantCounts(t *testing.T, often []uint32, log int) normal.Counts {
	t.Helper()
	kept := slices.Clone(often)
	c, err := normal.Of(often, log)
	if err != api.OK || c.Log != log || !fine(c) {
		t.Fatalf("Of(%d, %d): %v, %d", often, log, c, err)
	}
	for i, n := range often {
		there := i < len(c.Part) && c.Part[i] != 0
		if there != (n > 0) {
			t.Errorf("Of(%d, %d): %v, unlike at %d", often, log, c, i)
		}
	}
	if len(c.Part) > len(often) || !slices.Equal(often, kept) {
		t.Errorf("Of(%d, %d): %v; the numbers were %d", often, log, c, kept)
	}
	return c
}

func wantOfErr(t *testing.T, often []uint32, log int) {
	t.Helper()
	if c, err := normal.Of(often, log); err != api.ErrArg || c.Log != 0 || c.Part != nil {
		t.Errorf("Of(%d, %d): %v, %d; want error %d", often, log, c, err, api.ErrArg)
	}
}

func counts(log int, part ...int) normal.Counts { return normal.Counts{Log: log, Part: part} }

// each is a list of n times the same.
func each[T any](n int, x T) []T { return slices.Repeat([]T{x}, n) }

// many are counts of Log log and n parts, whose first ones are 1.
func many(log, n int) normal.Counts {
	return counts(log, append(each(n-1, 1), 1<<log-n+1)...)
}

// apart are two symbols of 16 parts each, so many without a part between them.
func apart(noughts int) normal.Counts {
	return counts(5, append(append([]int{16}, each(noughts, 0)...), 16)...)
}

// laidApart are the bytes that tell them, of 1 nought at least: 16 of left 32; 0 of left 16; how many more; 16 of left 16.
func laidApart(noughts int) []byte {
	fields := []string{"0000", "10001", "0001"}
	more := noughts - 1
	for ; more >= 3; more -= 3 {
		fields = append(fields, "11")
	}
	return laid(append(fields, fmt.Sprintf("%02b", more), "11111")...)
}

// laidOf are the bytes that tell such parts, however many they are.
func laidOf(c normal.Counts) []byte {
	fields := []string{fmt.Sprintf("%04b", c.Log-5)}
	left := 1 << c.Log
	for i := 0; i < len(c.Part); i++ {
		part := c.Part[i]
		fields = append(fields, fieldOf(part, left))
		left -= max(part, -part)
		if part != 0 {
			continue
		}
		row := 0
		for i+1 < len(c.Part) && c.Part[i+1] == 0 {
			row++
			i++
		}
		fields = append(fields, strings.Repeat("11", row/3), fmt.Sprintf("%02b", row%3))
	}
	return laid(fields...)
}

// some are counts of chance: of all kinds of parts, few or many symbols, noughts among them.
func some(r *rand.Rand) normal.Counts {
	log := 5 + r.IntN(11)
	left, noughts, rare := 1<<log, r.IntN(100), r.IntN(100)
	var part []int
	for left > 0 && len(part) < symbols-1 {
		switch {
		case r.IntN(100) < noughts:
			part = append(part, 0)
		case r.IntN(100) < rare:
			part = append(part, -1)
			left--
		default:
			p := 1 + r.IntN(1+r.IntN(left))
			part = append(part, p)
			left -= p
		}
	}
	if left > 0 {
		part = append(part, left)
	}
	return counts(log, part...)
}

// allKinds are counts that may be, at the edges and between them.
func allKinds() []normal.Counts {
	all := []normal.Counts{
		counts(5, 16, 16),
		counts(5, 32),
		counts(5, 0, 32),
		counts(15, 1<<15),
		counts(5, -1, 31),
		counts(5, 31, -1),
		counts(5, each(32, -1)...),
		counts(5, each(32, 1)...),
		counts(15, append(each(255, -1), 1<<15-255)...),
		counts(15, 1<<15-1, 0, 0, 1),
		counts(6, append([]int{63}, append(each(254, 0), -1)...)...),
		counts(5, append(each(255, 0), 32)...),
		many(8, 256),
		many(15, 256),
		// How codes of literals' lengths, of matches' lengths and of offsets are, as the format gives them.
		counts(6, 4, 3, 2, 2, 2, 2, 2, 2, 2, 2, 2, 2, 2, 1, 1, 1, 2, 2, 2, 2, 2, 2, 2, 2, 2, 3, 2, 1, 1, 1, 1, 1, -1, -1, -1, -1),
		counts(6, append(append([]int{1, 4, 3, 2, 2, 2, 2, 2, 2}, each(37, 1)...), each(7, -1)...)...),
		counts(5, append(append([]int{1, 1, 1, 1, 1, 1, 2, 2, 2}, each(15, 1)...), each(5, -1)...)...),
	}
	for log := 5; log <= 15; log++ {
		all = append(all, counts(log, 1<<log-1, 1), counts(log, 1<<log-1, -1), counts(log, 1, 1<<log-1), counts(log, 1<<log))
	}
	for row := range 255 {
		all = append(all, counts(9, append(append([]int{500}, each(row, 0)...), 12)...))
	}
	return all
}

// P6.1

func TestCheckTakesCountsThatMayBe(t *testing.T) {
	for _, c := range allKinds() {
		wantCheck(t, c, 15, api.OK)
		wantCheck(t, c, c.Log, api.OK)
		wantCheck(t, c, math.MaxInt, api.OK)
	}
}

func TestCheckRefusesOtherCounts(t *testing.T) {
	for name, c := range map[string]normal.Counts{
		"nothing":               {},
		"no parts":              counts(5),
		"no parts, not nil":     {Log: 5, Part: []int{}},
		"Log 4":                 counts(4, 8, 8),
		"Log 16":                counts(16, 1<<15, 1<<15),
		"Log 0":                 counts(0, 1),
		"Log below 0":           counts(-1, 1),
		"Log far below 0":       counts(math.MinInt, 1),
		"Log far above":         counts(math.MaxInt, 1),
		"Log 64":                counts(64, 1),
		"257 parts":             many(9, 257),
		"257 parts, few":        apart(255),
		"last one 0":            counts(5, 16, 16, 0),
		"0 alone":               counts(5, 0),
		"below -1":              counts(5, 16, 18, -2),
		"below -1, as it is":    counts(5, 16, 14, -2),
		"below -1 alone":        counts(5, -32),
		"one less":              counts(5, 16, 15),
		"one more":              counts(5, 16, 17),
		"one less by -1":        counts(5, 16, 14, -1),
		"one more by -1":        counts(5, 16, 16, -1),
		"-1 as less":            counts(5, 16, 17, -1),
		"-1 alone":              counts(5, -1),
		"31 of -1":              counts(5, each(31, -1)...),
		"33 of -1":              counts(5, each(33, -1)...),
		"one symbol, too few":   counts(5, 31),
		"one symbol, too many":  counts(5, 33),
		"of another Log":        counts(6, 16, 16),
		"great, wrapped round":  counts(5, math.MaxInt, math.MaxInt, 34),
		"great, 32 bits of it":  counts(5, 1<<32, 32),
		"below 0 makes it good": counts(5, 40, -8),
		"far below 0":           counts(5, math.MinInt, math.MinInt, 32),
		"far below 0, alone":    counts(5, math.MinInt),
		"behind all of them":    counts(5, 32, 1),
		"a 0 behind all":        counts(5, 32, 0, 0, 1),
	} {
		t.Run(name, func(t *testing.T) {
			for _, most := range []int{math.MinInt, -1, 0, 4, 5, 9, 15, 16, math.MaxInt} {
				wantCheck(t, c, most, api.ErrArg)
			}
		})
	}
}

func TestCheckTellsLogAboveMost(t *testing.T) {
	for log := 5; log <= 15; log++ {
		c := counts(log, 1<<log-3, 0, -1, 2)
		for most := -3; most < 20; most++ {
			want := api.OK
			if log > most {
				want = api.ErrBig
			}
			wantCheck(t, c, most, want)
		}
		wantCheck(t, c, math.MinInt, api.ErrBig)
	}
}

// P6.2

func TestReadTellsDescriptionsLaidByHand(t *testing.T) {
	for _, d := range []struct {
		b    []byte
		used int
		want normal.Counts
	}{
		// Left 32: 5 bits or 6, free 30; left 16: 4 bits or 5, free 14.
		{laid("0000", "10001", "11111"), 2, counts(5, 16, 16)},
		{[]byte{0x10, 0x3f}, 2, counts(5, 16, 16)},
		// All of left at once, and none of its bits left.
		{laid("0000", "111111"), 2, counts(5, 32)},
		// Less than one part, then 31 of left 31: always 5 bits and, as free is 31, one more of 31 alone.
		{laid("0000", "00000", "111111"), 2, counts(5, -1, 31)},
		// Left 1: one bit and free 1: 0 is less than one part; 1, and 1 more, is one part.
		{laid("0000", "111110", "0"), 2, counts(5, 31, -1)},
		{laid("0000", "111110", "11"), 2, counts(5, 31, 1)},
		// Left 1: 1, and 0 more, is none; two bits tell of noughts; then it is left 1 once more.
		{laid("0000", "111110", "01", "00", "11"), 2, counts(5, 31, 0, 1)},
		{laid("0000", "111110", "01", "01", "11"), 2, counts(5, 31, 0, 0, 1)},
		{laid("0000", "111110", "01", "10", "0"), 2, counts(5, 31, 0, 0, 0, -1)},
		{laid("0000", "111110", "01", "11", "00", "11"), 3, counts(5, 31, 0, 0, 0, 0, 1)},
		{laid("0000", "111110", "01", "11", "10", "0"), 3, counts(5, 31, 0, 0, 0, 0, 0, 0, -1)},
		{laid("0000", "111110", "01", "11", "11", "11", "01", "0"), 3, counts(5, append(append([]int{31}, each(11, 0)...), -1)...)},
		// Noughts one by one, each told as a symbol of its own.
		{laid("0000", "00001", "00", "00001", "00", "111111"), 3, counts(5, 0, 0, 32)},
		// Log 15: left 32768: 15 bits or 16, free 32766.
		{laid("1010", "1111111111111111"), 3, counts(15, 1<<15)},
		{laid("1010", "111111111111101", "111"), 3, counts(15, 32764, 4)},
	} {
		wantRead(t, d.b, 15, symbols, d.want, d.used, api.OK)
		wantRead(t, d.b, d.want.Log, len(d.want.Part), d.want, d.used, api.OK)
	}
}

func TestReadTellsEachLog(t *testing.T) {
	for x := range 16 {
		log := x + 5
		b := laid(fmt.Sprintf("%04b", x), strings.Repeat("1", log+1))
		for most := -1; most <= 22; most++ {
			if log > most || log > 15 {
				wantReadErr(t, b, most, symbols, api.ErrBig)
				wantReadErr(t, b[:1], most, 0, api.ErrBig)
			} else {
				wantRead(t, b, most, symbols, counts(log, 1<<log), (4+log+1+7)/8, api.OK)
			}
		}
		wantReadErr(t, b, math.MinInt, symbols, api.ErrBig)
	}
}

// Low just below free has no bit more; low just at it has one, which is 0 or 1.
func TestReadTellsLowByFree(t *testing.T) {
	const log = 9
	for left := 1; left <= 1<<log; left++ {
		first := ""
		part := []int{}
		if left < 1<<log {
			full := 1<<log - left
			part = append(part, full)
			first = fieldOf(full, 1<<log)
		}
		n := len(strconv.FormatInt(int64(left)+1, 2))
		free := 1<<n - 2 - left
		low := func(x int) string { return fmt.Sprintf("%0*b", n-1, x) }
		if free > 0 {
			wantNext(t, part, left, free-2, first, low(free-1))
		}
		if free < 1<<(n-1) {
			wantNext(t, part, left, free-1, first, low(free), "0")
			wantNext(t, part, left, 1<<(n-1)-1, first, low(free), "1")
			wantNext(t, part, left, left, first, strings.Repeat("1", n))
		}
	}
}

// fieldOf is that of a symbol's part when so much is left.
func fieldOf(part, left int) string {
	n := len(strconv.FormatInt(int64(left)+1, 2))
	free := 1<<n - 2 - left
	switch v := part + 1; {
	case v < free:
		return fmt.Sprintf("%0*b", n-1, v)
	case v < 1<<(n-1):
		return fmt.Sprintf("%0*b", n, v)
	default:
		return fmt.Sprintf("%0*b", n, v+free)
	}
}

// wantNext fails, unless these fields, behind the Log, tell the parts ahead, then this one, and one that takes all that is left then.
func wantNext(t *testing.T, ahead []int, left, part int, fields ...string) {
	t.Helper()
	all := append([]string{"0100"}, fields...)
	want := append(slices.Clone(ahead), part)
	if part == 0 {
		all = append(all, "00")
	}
	left -= max(part, -part)
	if left > 0 {
		all = append(all, strings.Repeat("1", len(strconv.FormatInt(int64(left)+1, 2))))
		want = append(want, left)
	}
	b := laid(all...)
	wantRead(t, b, 9, symbols, counts(9, want...), len(b), api.OK)
}

func TestReadTellsBytesThatEnd(t *testing.T) {
	// In the Log.
	wantReadErr(t, nil, 15, symbols, api.ErrShort)
	wantReadErr(t, []byte{}, 4, symbols, api.ErrShort)
	wantReadErr(t, nil, 15, 0, api.ErrShort)
	// Behind it (Log 12: 12 bits of low), in the midst of low, behind it where a bit more is asked for.
	wantReadErr(t, laid("0111", "1111"), 15, symbols, api.ErrShort)
	wantReadErr(t, laid("0111", "111111111111"), 15, symbols, api.ErrShort)
	wantReadErr(t, laid("0111", "111111111110"), 15, symbols, api.ErrShort)
	// Behind low where there is no bit more, but something left.
	wantReadErr(t, laid("0111", "111111111101"), 15, symbols, api.ErrShort)
	// Ahead of the bits of noughts, in the midst of them, behind some.
	wantReadErr(t, laid("0111", "000000000001"), 15, symbols, api.ErrShort)
	wantReadErr(t, laid("0000", "00001", "11", "11", "11", "1"), 15, symbols, api.ErrShort)
	wantReadErr(t, laid("0111", "000000000001", "11", "11", "11", "11"), 15, symbols, api.ErrShort)
	wantReadErr(t, laid("0111", "000000000001", "11", "11", "11", "00"), 15, symbols, api.ErrShort)
	// Less of what is told as a whole.
	for _, c := range allKinds() {
		b, _ := normal.Write(c)
		for n := range b {
			wantReadErr(t, b[:n], 15, symbols, api.ErrShort)
		}
	}
}

func TestReadLeavesBytesBehind(t *testing.T) {
	for _, c := range allKinds() {
		b, _ := normal.Write(c)
		for _, behind := range [][]byte{{0}, {255}, {1, 2, 3}, b} {
			wantRead(t, append(b[:len(b):len(b)], behind...), 15, symbols, c, len(b), api.OK)
		}
	}
	// Bits behind the last one, in the same byte, are none of it.
	for behind := range 4 {
		wantRead(t, laid("0000", "10001", "11111", fmt.Sprintf("%02b", behind)), 9, 2, counts(5, 16, 16), 2, api.OK)
	}
}

func TestReadTellsTooManySymbols(t *testing.T) {
	for _, c := range allKinds() {
		b, _ := normal.Write(c)
		n := len(c.Part)
		wantRead(t, b, 15, n, c, len(b), api.OK)
		wantRead(t, b, 15, n+1, c, len(b), api.OK)
		wantReadErr(t, b, 15, n-1, api.ErrForm)
		wantReadErr(t, b, 15, 0, api.ErrForm)
		wantReadErr(t, b, 15, -1, api.ErrForm)
		wantReadErr(t, b, 15, math.MinInt, api.ErrForm)
	}
	// Noughts that are just as many as may be, and one more.
	b, _ := normal.Write(counts(5, 20, 0, 0, 0, 0, 12))
	wantReadErr(t, b, 15, 5, api.ErrForm)
	wantReadErr(t, b, 15, 4, api.ErrForm)
	wantReadErr(t, b[:2], 15, 4, api.ErrForm)
	wantReadErr(t, b[:2], 15, 5, api.ErrShort)
}

// As soon as there are too many, nothing more is read: what isn't there isn't missed.
func TestReadEndsAtTooManySymbols(t *testing.T) {
	// Log 12 and one symbol, and bytes end; with one symbol more they lack.
	one := laid("0111", "000000000010")
	wantReadErr(t, one, 15, 0, api.ErrForm)
	wantReadErr(t, one, 15, 1, api.ErrShort)
	// One symbol without a part and three noughts behind it.
	four := laid("0111", "000000000001", "11", "00", "0000")
	wantReadErr(t, four, 15, 3, api.ErrForm)
	wantReadErr(t, four, 15, 4, api.ErrShort)
	// Noughts belong to the symbol ahead of them: they are read ahead of the answer that there are too many.
	wantReadErr(t, laid("0111", "000000000001"), 15, 0, api.ErrShort)
	wantReadErr(t, laid("0111", "000000000001", "11", "11", "11", "11"), 15, 3, api.ErrShort)
	wantReadErr(t, laid("0111", "000000000001", "11", "11", "11", "10"), 15, 3, api.ErrForm)
}

func TestReadTellsLongRowsOfNoughts(t *testing.T) {
	whole := append(laid("0111", "000000000001"), each(1<<16, byte(255))...)
	wantReadErr(t, whole, 15, symbols, api.ErrShort)
	wantReadErr(t, append(whole, 0), 15, symbols, api.ErrForm)
	wantReadErr(t, append(whole, 0), 15, math.MaxInt, api.ErrShort)
	// A row that ends, and one symbol that takes all that is left (Log 12).
	const noughts = 1 + 3*4<<16
	whole = append(whole, laid("00", strings.Repeat("1", 13))...)
	want := counts(12, append(each(noughts, 0), 1<<12)...)
	wantRead(t, whole, 15, noughts+1, want, len(whole), api.OK)
	wantRead(t, whole, 15, math.MaxInt, want, len(whole), api.OK)
	wantReadErr(t, whole, 15, noughts, api.ErrForm)
	wantReadErr(t, whole[:len(whole)-1], 15, noughts, api.ErrShort)
	wantReadErr(t, whole[:len(whole)-1], 15, noughts-1, api.ErrForm)
}

// tooMany are parts that make a power of 2, but of more symbols than counts may have: all kinds of parts, with and without noughts.
func tooMany() []normal.Counts {
	all := []normal.Counts{
		apart(255),
		apart(900),
		counts(5, append(each(256, 0), 32)...),
		counts(5, append(each(5000, 0), -1, 31)...),
		counts(9, each(512, -1)...),
		counts(9, each(512, 1)...),
		counts(15, each(1<<15, 1)...),
		many(9, 257),
		many(15, 257),
		many(15, 1000),
	}
	mixed := []int{}
	for i := range 300 {
		mixed = append(append(mixed, 1), each(i%5, 0)...)
		mixed = append(mixed, -1, 3)
	}
	return append(all, counts(11, append(mixed, 1<<11-300*5)...))
}

// What more symbols than counts may have are told by is a description all the same, if so many are taken.
func TestReadTellsMoreSymbolsThanMayBe(t *testing.T) {
	for _, c := range tooMany() {
		b := laidOf(c)
		n := len(c.Part)
		for _, most := range []int{n, n + 1, 2 * n, 1 << 31, math.MaxInt} {
			wantRead(t, b, 15, most, c, len(b), api.OK)
			wantRead(t, b, c.Log, most, c, len(b), api.OK)
			wantRead(t, append(b[:len(b):len(b)], 7, 255), 15, most, c, len(b), api.OK)
			wantReadErr(t, b, c.Log-1, most, api.ErrBig)
			wantReadErr(t, b[:len(b)-1], 15, most, api.ErrShort)
		}
		for _, most := range []int{n - 1, symbols, symbols - 1, 1, 0, -1, math.MinInt} {
			wantReadErr(t, b, 15, most, api.ErrForm)
		}
		wantTold(t, b, 15, n)
		wantTold(t, b, 15, n-1)
		// They may be told, but they may not be.
		wantCheck(t, c, 15, api.ErrArg)
		if b, err := normal.Write(c); err != api.ErrArg || b != nil {
			t.Errorf("Write(%v): %d, %d; want error %d", c, b, err, api.ErrArg)
		}
	}
}

// The first symbol too many ends it, above 256 as below: what isn't there isn't missed, and what there is room for is.
func TestReadEndsAtTooManySymbolsAbove256(t *testing.T) {
	fields := []string{"1010"}
	for i := range 301 {
		fields = append(fields, fieldOf(1, 1<<15-i))
	}
	b := laid(fields...)
	for _, most := range []int{255, 256, 257, 258, 299, 300} {
		wantReadErr(t, b, 15, most, api.ErrForm)
	}
	for _, most := range []int{301, 302, 1000, math.MaxInt} {
		wantReadErr(t, b, 15, most, api.ErrShort)
	}
}

// However many bits are set, no part takes more than what is left: left ends at 0 just.
func TestReadNeverGoesBelowNought(t *testing.T) {
	for log := 5; log <= 15; log++ {
		for n := range 1 << 10 {
			b := laid(fmt.Sprintf("%04b", log-5), fmt.Sprintf("%0*b", log, n*31%(1<<log)))
			b = append(b, each(9, byte(255))...)
			c, _, err := normal.Read(b, 15, symbols)
			if err == api.OK && !fine(c) {
				t.Errorf("Read(%d): %v", b, c)
			}
			wantTold(t, b, 15, symbols)
		}
	}
}

func TestReadOfAllPairsOfBytes(t *testing.T) {
	for x := range 1 << 16 {
		b := []byte{byte(x), byte(x >> 8)}
		wantTold(t, b, 15, symbols)
		wantTold(t, b, 5, 1+x%7)
		wantTold(t, append(b, b...), 15, symbols)
	}
}

func TestReadOfChance(t *testing.T) {
	r := rand.New(rand.NewPCG(6, 2))
	for range 30000 {
		b := make([]byte, r.IntN(40))
		for i := range b {
			b[i] = byte(r.Uint32())
			if r.IntN(3) == 0 {
				b[i] = 0
			}
		}
		wantTold(t, b, 15, symbols)
		wantTold(t, b, 4+r.IntN(14), r.IntN(257))
		wantTold(t, b, 15, 250+r.IntN(1000))
		wantTold(t, b, 15, math.MaxInt)
	}
}

// Bytes of which nearly all bits are set tell long rows of noughts.
func TestReadOfChanceInLongRows(t *testing.T) {
	r := rand.New(rand.NewPCG(6, 20))
	for range 30000 {
		b := each(3+r.IntN(60), byte(255))
		b[0] = byte(r.IntN(256)) &^ byte(r.IntN(16))
		b[1] = byte(r.IntN(2))
		for range 1 + r.IntN(3) {
			b[1+r.IntN(len(b)-1)] = byte(r.Uint32())
		}
		wantTold(t, b, 15, symbols)
		wantTold(t, b, 15, 250+r.IntN(1000))
		wantTold(t, b, 15, math.MaxInt)
	}
}

func TestReadAnswersNewMemory(t *testing.T) {
	b := laid("0000", "10001", "11111")
	a, _, _ := normal.Read(b, 9, 2)
	c, _, _ := normal.Read(b, 9, 2)
	a.Part[0] = 7
	clear(b)
	if c.Part[0] != 16 || c.Part[1] != 16 {
		t.Errorf("other counts changed to %v", c)
	}
}

// P6.3

func TestWriteByHand(t *testing.T) {
	wantWritten(t, counts(5, 16, 16), []byte{0x10, 0x3f})
	wantWritten(t, counts(5, 32), laid("0000", "111111"))
	wantWritten(t, counts(5, -1, 31), laid("0000", "00000", "111111"))
	wantWritten(t, counts(5, 31, -1), laid("0000", "111110", "0"))
	wantWritten(t, counts(5, 31, 1), laid("0000", "111110", "11"))
	wantWritten(t, counts(5, 0, 32), laid("0000", "00001", "00", "111111"))
	wantWritten(t, counts(15, 1<<15), laid("1010", "1111111111111111"))
	// Left 32: 28 is told in 5 bits, 29 as 30 with a bit more that is 0; left 3: 2 bits or 3, free 3.
	wantWritten(t, counts(5, 28, 4), laid("0000", "11101", "111"))
	wantWritten(t, counts(5, 29, 3), laid("0000", "011110", "111"))
	// Left 30: 5 bits always, free 0.
	wantWritten(t, counts(5, 2, 14, 16), laid("0000", "00011", "01111", "11111"))
	wantWritten(t, counts(5, 2, 15, 15), laid("0000", "00011", "10000", "11111"))
}

func TestWriteTellsRowsOfNoughts(t *testing.T) {
	for noughts := 1; noughts < 255; noughts++ {
		wantWritten(t, apart(noughts), laidApart(noughts))
	}
}

func TestWriteRefusesOtherCounts(t *testing.T) {
	for _, c := range []normal.Counts{
		{}, counts(5), counts(4, 8, 8), counts(16, 1<<15, 1<<15), counts(-1, 1), counts(math.MaxInt, 1), counts(math.MinInt, 1),
		many(9, 257), counts(5, 16, 16, 0), counts(5, 16, 14, -2), counts(5, 16, 15), counts(5, 16, 17), counts(5, -1),
		counts(5, 0), counts(5, 16, 16, -1), counts(5, math.MaxInt, math.MaxInt, 34), counts(5, math.MinInt), counts(5, 1<<40, 32),
	} {
		if b, err := normal.Write(c); err != api.ErrArg || b != nil {
			t.Errorf("Write(%v): %d, %d; want error %d", c, b, err, api.ErrArg)
		}
	}
}

func TestWriteIsReadAsItWas(t *testing.T) {
	for _, c := range allKinds() {
		wantThereAndBack(t, c)
	}
	r := rand.New(rand.NewPCG(6, 3))
	for range 20000 {
		c := some(r)
		wantCheck(t, c, c.Log, api.OK)
		wantThereAndBack(t, c)
	}
}

// Of descriptions that tell the same (noughts may be told one by one, too) the one that is written has the fewest bytes.
func TestWriteIsAsShortAsMayBe(t *testing.T) {
	for x := range 1 << 20 {
		b := []byte{byte(x), byte(x >> 8), byte(x >> 16)}
		if b[0]&15 != 0 {
			continue
		}
		c, used, err := normal.Read(b, 15, symbols)
		if err != api.OK {
			continue
		}
		short, err := normal.Write(c)
		if err != api.OK || len(short) > used {
			t.Errorf("Write(%v): %d, %d; %d tells it, too", c, short, err, b[:used])
		}
		wantRead(t, short, 15, symbols, c, len(short), api.OK)
	}
}

func TestWriteAnswersNewMemory(t *testing.T) {
	c := counts(5, 16, 16)
	a, _ := normal.Write(c)
	b, _ := normal.Write(c)
	a[0] = 0
	c.Part[0] = 1
	if !bytes.Equal(b, []byte{0x10, 0x3f}) {
		t.Errorf("other bytes changed to %d", b)
	}
}

// P6.4

func TestOfWhatIsWhole(t *testing.T) {
	wantOf(t, []uint32{1, 1}, 5, 16, 16)
	wantOf(t, []uint32{3, 1}, 5, 24, 8)
	wantOf(t, []uint32{3, 0, 1, 0, 0}, 5, 24, 0, 8)
	wantOf(t, []uint32{0, 0, 5, 0, 5}, 15, 0, 0, 1<<14, 0, 1<<14)
	wantOf(t, []uint32{4, 2, 1, 1}, 15, 1<<14, 1<<13, 1<<12, 1<<12)
	wantOf(t, []uint32{1 << 30, 1<<30 - 1}, 5, 16, 16)
}

// No other part is nearer by as much as two.
func TestOfIsNear(t *testing.T) {
	r := rand.New(rand.NewPCG(6, 44))
	for range 2000 {
		log := 9 + r.IntN(7)
		often := make([]uint32, 2+r.IntN(30))
		sum := 0
		for i := range often {
			often[i] = 100 + uint32(r.IntN(1000))
			sum += int(often[i])
		}
		c := wantCounts(t, often, log)
		for i, n := range often {
			share := float64(n) * float64(int(1)<<log) / float64(sum)
			if math.Abs(float64(c.Part[i])-share) > 1.5 {
				t.Errorf("Of(%d, %d): %v, where %d should be near %f", often, log, c, i, share)
			}
		}
	}
}

func TestOfCutsWhatIsNotAtTheEnd(t *testing.T) {
	for end := range 255 {
		often := append([]uint32{7, 9}, each(end, uint32(0))...)
		if c := wantCounts(t, often, 6); len(c.Part) != 2 {
			t.Errorf("Of(%d, 6): %v", often, c)
		}
		often[len(often)-1] = 1
		if c := wantCounts(t, often, 6); len(c.Part) != len(often) {
			t.Errorf("Of(%d, 6): %v", often, c)
		}
	}
}

func TestOfAsManySymbolsAsMayBe(t *testing.T) {
	for log := 5; log <= 15; log++ {
		n := min(1<<log, symbols)
		for _, x := range []uint32{1, 2, 7, 1000} {
			wantCounts(t, each(n, x), log)
			wantCounts(t, append(each(n-1, x), 1000000), log)
			wantCounts(t, append([]uint32{1000000}, each(n-1, x)...), log)
		}
		if n < symbols {
			wantOf(t, append(each(n, uint32(9)), each(symbols-n, uint32(0))...), log, each(n, 1)...)
			wantOfErr(t, append(each(n, uint32(1)), 1), log)
			wantOfErr(t, append(each(n, uint32(1)), append(each(20, uint32(0)), 1000)...), log)
		}
	}
	wantOfErr(t, each(257, uint32(1)), 15)
	wantOfErr(t, append([]uint32{1, 1}, each(255, uint32(0))...), 15)
	wantCounts(t, append([]uint32{1, 1}, each(254, uint32(0))...), 15)
}

func TestOfRefusesOtherLogs(t *testing.T) {
	for _, log := range []int{math.MinInt, -64, -1, 0, 4, 16, 31, 32, 63, 64, math.MaxInt} {
		wantOfErr(t, []uint32{1, 1}, log)
		wantOfErr(t, nil, log)
	}
	for log := 5; log <= 15; log++ {
		wantOf(t, []uint32{1, 1}, log, 1<<(log-1), 1<<(log-1))
	}
}

func TestOfRefusesFewSymbols(t *testing.T) {
	for log := 4; log <= 16; log++ {
		wantOfErr(t, nil, log)
		wantOfErr(t, []uint32{}, log)
		wantOfErr(t, []uint32{0}, log)
		wantOfErr(t, []uint32{1}, log)
		wantOfErr(t, each(256, uint32(0)), log)
		wantOfErr(t, []uint32{0, 0, 1 << 20, 0}, log)
		wantOfErr(t, []uint32{math.MaxInt32}, log)
	}
}

func TestOfRefusesGreatSums(t *testing.T) {
	for log := 5; log <= 15; log++ {
		wantCounts(t, []uint32{math.MaxInt32 - 1, 1}, log)
		wantCounts(t, []uint32{1, math.MaxInt32 - 1}, log)
		wantCounts(t, append(each(31, uint32(1<<26)), 1<<26-1), log)
		wantOfErr(t, []uint32{math.MaxInt32, 1}, log)
		wantOfErr(t, []uint32{1 << 30, 1 << 30}, log)
		wantOfErr(t, each(32, uint32(1<<26)), log)
		// Sums that would fit if they went round.
		wantOfErr(t, []uint32{math.MaxUint32, 2}, log)
		wantOfErr(t, []uint32{math.MaxUint32, math.MaxUint32}, log)
		wantOfErr(t, []uint32{1 << 31, 1 << 31, 5}, log)
	}
}

func TestOfNumbersFarApart(t *testing.T) {
	for log := 5; log <= 15; log++ {
		far := []uint32{1 << 30, 1, 0, 1, 1 << 20, 2, 1 << 10, 1}
		c := wantCounts(t, far, log)
		if i := slices.Index(c.Part, slices.Max(c.Part)); i != 0 {
			t.Errorf("Of(%d, %d): %v", far, log, c)
		}
		falling := make([]uint32, 31)
		for i := range falling {
			falling[i] = 1 << (29 - min(i, 29))
		}
		wantCounts(t, falling, log)
		wantCounts(t, append([]uint32{math.MaxInt32 - 31}, each(31, uint32(1))...), log)
		// Two that have nearly all, and as many of 1 as there is room for: parts must be taken back from both.
		wantCounts(t, append([]uint32{1 << 29, 1 << 29}, each(min(1<<log, symbols)-2, uint32(1))...), log)
	}
}

func TestOfChance(t *testing.T) {
	r := rand.New(rand.NewPCG(6, 4))
	for range 20000 {
		log := 5 + r.IntN(11)
		often := make([]uint32, 2+r.IntN(255))
		there := 2 + r.IntN(min(len(often), 1<<log)-1)
		for _, i := range r.Perm(len(often))[:there] {
			often[i] = 1 + uint32(r.IntN(1<<r.IntN(23)))
		}
		wantThereAndBack(t, wantCounts(t, often, log))
	}
}

// P6.5

func TestWhatIsReadMayBe(t *testing.T) {
	r := rand.New(rand.NewPCG(6, 5))
	read := 0
	for range 200000 {
		b := make([]byte, 1+r.IntN(60))
		for i := range b {
			b[i] = byte(r.Uint32())
		}
		b[0] &^= byte(r.IntN(16))
		c, n, err := normal.Read(b, 15, symbols)
		if err != api.OK {
			continue
		}
		read++
		wantCheck(t, c, 15, api.OK)
		if !fine(c) || n < 1 || n > len(b) {
			t.Errorf("Read(%d): %v, %d", b, c, n)
		}
	}
	if read < 1000 {
		t.Errorf("only %d were read", read)
	}
}

// 256 symbols are as many as counts may have: those who take no more get none of more.
func TestReadOf256TellsNoMoreThanMayBe(t *testing.T) {
	for _, most := range []int{256, 257, 1000, math.MaxInt} {
		b := laidApart(254)
		wantRead(t, b, 15, most, apart(254), len(b), api.OK)
		wantCheck(t, apart(254), 15, api.OK)
	}
	wantReadErr(t, laidApart(255), 15, 256, api.ErrForm)
	wantReadErr(t, laidApart(256), 15, 256, api.ErrForm)
	wantReadErr(t, laidApart(900), 15, 256, api.ErrForm)
}
