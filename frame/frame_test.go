package frame_test

import (
	"bytes"
	"encoding/hex"
	"fmt"
	"math"
	"math/rand/v2"
	"slices"
	"testing"

	"lighterman/api"
	"lighterman/frame"
)

func ExampleWrite() {
	fmt.Println(frame.Write(5, false))
	// Output: [40 181 47 253 32 5]
}

func ExampleRead() {
	h, n, err := frame.Read([]byte{0x64, 44, 1, 7, 8}) // one segment of 300 and 256 bytes, behind which stands a sum
	fmt.Println(h.Window, h.Size, h.Known, h.Sum, n, err == api.OK)
	h, n, err = frame.Read([]byte{0, 81, 7, 8}) // a window of 2^20 bytes and an eighth; no size
	fmt.Println(h.Window, h.Size, h.Known, h.Sum, n, err == api.OK)
	// Output:
	// 556 556 true true 3 true
	// 1179648 0 false false 2 true
}

func ExampleReadBlock() {
	x, err := frame.ReadBlock([]byte{75, 0, 0, 7, 8})
	fmt.Println(x.Last, x.Kind == frame.Same, x.Size, err == api.OK)
	// Output: true true 9 true
}

func ExampleWriteBlock() {
	b, err := frame.WriteBlock(frame.Block{Last: true, Kind: frame.Same, Size: 9})
	fmt.Println(b, err == api.OK)
	// Output: [75 0 0] true
}

// The constants are numbers of any kind that holds them.
const (
	_ uint32  = frame.Magic
	_ uint64  = frame.Magic
	_ float64 = frame.Magic
	_ byte    = frame.Raw
	_ int     = frame.Same
	_ uint64  = frame.Packed
)

// The bits of a head's first byte.
const (
	sumBit     = 4
	noFrameBit = 8
	freeBit    = 16
	segmentBit = 32
)

// then are lists one behind the other.
func then(lists ...[]byte) []byte { return slices.Concat(lists...) }

// each is a list of n times the same.
func each(n int, c byte) []byte { return bytes.Repeat([]byte{c}, n) }

// lowestFirst is a number in so many bytes.
func lowestFirst(x uint64, width int) []byte {
	var b []byte
	for range width {
		b = append(b, byte(x%256))
		x /= 256
	}
	return b
}

// numberOf is the number that bytes are, the lowest first.
func numberOf(b []byte) uint64 {
	var x uint64
	for _, c := range slices.Backward(b) {
		x = x*256 + uint64(c)
	}
	return x
}

// roomy is a copy with room behind it, and all of that memory.
func roomy(b []byte) ([]byte, []byte) {
	memory := then(b, each(40, 0xEE))
	return memory[:len(b)], memory
}

// told is what Read tells.
type told struct {
	h   frame.Header
	n   int
	err api.Errno
}

// head is what a head tells that is taken.
func head(window, size uint64, known, sum bool, n int) told {
	return told{h: frame.Header{Window: window, Size: size, Known: known, Sum: sum}, n: n}
}

// refusal is an error, and nothing else.
func refusal(err api.Errno) told { return told{err: err} }

// widths are how many bytes a window's, a dictionary's, and the size's number have, by the first byte.
func widths(first byte) (window, dictionary, size int) {
	window, dictionary, size = 1, []int{0, 1, 2, 4}[first%4], []int{0, 2, 4, 8}[first/64]
	if first&segmentBit != 0 {
		window, size = 0, max(size, 1)
	}
	return window, dictionary, size
}

// inWords is what P15.1 says of Read.
func inWords(b []byte) told {
	if len(b) == 0 {
		return refusal(api.ErrShort)
	}
	first := b[0]
	if first&noFrameBit != 0 {
		return refusal(api.ErrForm)
	}
	window, dictionary, size := widths(first)
	all := 1 + window + dictionary + size
	if len(b) < all {
		return refusal(api.ErrShort)
	}
	if slices.Max(append([]byte{0}, b[1+window:][:dictionary]...)) > 0 {
		return refusal(api.ErrDict)
	}
	h := frame.Header{Known: size > 0, Size: numberOf(b[all-size : all]), Sum: first&sumBit != 0}
	if size == 2 {
		h.Size += 256
	}
	h.Window = h.Size
	if window == 1 {
		h.Window = windowInWords(b[1])
	}
	return told{h: h, n: all}
}

// windowInWords is what P15.1 says of the byte that tells the window.
func windowInWords(w byte) uint64 {
	x := uint64(1)
	for range 10 + w/8 {
		x *= 2
	}
	window := x
	for range w % 8 {
		window += x / 8
	}
	return window
}

// wantTold fails, unless a call tells this of bytes that it leaves as they are, and once more; and, unless bytes lack, whatever stands behind.
func wantTold[T comparable](t *testing.T, call string, tell, inWords func(b []byte) T, b []byte, want T, lack bool) {
	t.Helper()
	roomyB, memory := roomy(b)
	ahead := bytes.Clone(memory)
	got := tell(roomyB)
	if got != want {
		t.Errorf("%s(%d): %v; want %v", call, b, got, want)
	}
	if inWords := inWords(b); inWords != want {
		t.Errorf("%s(%d) in words: %v; want %v", call, b, inWords, want)
	}
	if again := tell(roomyB); again != got {
		t.Errorf("%s(%d), once more: %v; at first %v", call, b, again, got)
	}
	if !bytes.Equal(memory, ahead) {
		t.Errorf("%s(%d): what was handed in, or what stands behind it, was changed", call, b)
	}
	if lack {
		return
	}
	for _, behind := range [][]byte{{0}, {255}, each(30, 0), each(30, 255), each(300, 8)} {
		if longer := tell(then(b, behind)); longer != want {
			t.Errorf("%s(%d), with %d bytes of %d behind: %v; want %v", call, b, len(behind), behind[0], longer, want)
		}
	}
}

// wantRead fails, unless Read tells this.
func wantRead(t *testing.T, b []byte, want told) {
	t.Helper()
	read := func(b []byte) told {
		h, n, err := frame.Read(b)
		return told{h, n, err}
	}
	wantTold(t, "Read", read, inWords, b, want, want.err == api.ErrShort)
}

// wantAsInWords fails, unless Read tells what the promise says; it is that.
func wantAsInWords(t *testing.T, b []byte) told {
	t.Helper()
	want := inWords(b)
	wantRead(t, b, want)
	return want
}

// unhex are bytes that are told by 16.
func unhex(t *testing.T, text string) []byte {
	t.Helper()
	b, err := hex.DecodeString(text)
	if err != nil {
		t.Fatal(err)
	}
	return b
}

// P15.1

// Heads that another program of the format wrote.
func TestReadOfAnotherProgram(t *testing.T) {
	for _, c := range []struct {
		text string
		want told
	}{
		{"2400", head(0, 0, true, true, 2)},
		{"2000", head(0, 0, true, false, 2)},
		{"2401", head(1, 1, true, true, 2)},
		{"20ff", head(255, 255, true, false, 2)},
		{"0448", head(1<<19, 0, false, true, 2)},
		{"0068", head(1<<23, 0, false, false, 2)},
		{"0488", head(1<<27, 0, false, true, 2)},
		{"640000", head(256, 256, true, true, 3)},
		{"60ffff", head(65791, 65791, true, false, 3)},
		{"440060e9", head(1<<10, 60000, true, true, 4)},
		{"a400010100", head(65792, 65792, true, true, 5)},
		{"a0400d0300", head(200000, 200000, true, false, 5)},
		{"840000010100", head(1<<10, 65792, true, true, 6)},
		{"844880969800", head(1<<19, 10000000, true, true, 6)},
		{"805080969800", head(1<<20, 10000000, true, false, 6)},
		{"65074c00", refusal(api.ErrDict)},
		{"055807", refusal(api.ErrDict)},
		{"662c014c00", refusal(api.ErrDict)},
		{"06582c01", refusal(api.ErrDict)},
		{"67701101004c00", refusal(api.ErrDict)},
		{"075870110100", refusal(api.ErrDict)},
	} {
		wantRead(t, unhex(t, c.text), c.want)
	}
}

func TestReadOfNoBytes(t *testing.T) {
	wantRead(t, nil, refusal(api.ErrShort))
	wantRead(t, []byte{}, refusal(api.ErrShort))
}

// Every first byte, with bytes enough behind it, and with each number of bytes less.
func TestReadOfEveryFirstByte(t *testing.T) {
	behinds := [][]byte{each(13, 0), each(13, 1), each(13, 255), {1, 2, 3, 4, 5, 6, 7, 8, 9, 10, 11, 12, 13}}
	for first := range 256 {
		window, dictionary, size := widths(byte(first))
		all := 1 + window + dictionary + size
		for _, behind := range behinds {
			b := then([]byte{byte(first)}, behind)
			whole := wantAsInWords(t, b[:all])
			wantRead(t, b, whole)
			for less := 1; less <= all; less++ {
				want := refusal(api.ErrShort)
				if first&noFrameBit != 0 && less < all {
					want = refusal(api.ErrForm)
				}
				wantRead(t, b[:all-less], want)
			}
		}
		// Without a dictionary it is taken, unless it is no frame.
		want := head(1<<10, 0, first >= 64, first&sumBit != 0, all)
		if size == 2 {
			want.h.Size = 256
		}
		if first&segmentBit != 0 {
			want.h.Known, want.h.Window = true, want.h.Size
		}
		if first&noFrameBit != 0 {
			want = refusal(api.ErrForm)
		}
		wantRead(t, then([]byte{byte(first)}, each(13, 0)), want)
	}
}

// What is no frame is told ahead of bytes that lack, and of a dictionary.
func TestReadOfNoFrame(t *testing.T) {
	for first := range 256 {
		if first&noFrameBit == 0 {
			continue
		}
		for n := range 16 {
			wantRead(t, then([]byte{byte(first)}, each(n, 0)), refusal(api.ErrForm))
			wantRead(t, then([]byte{byte(first)}, each(n, 255)), refusal(api.ErrForm))
		}
	}
}

func TestReadTheFreeBitSaysNothing(t *testing.T) {
	c := rand.New(rand.NewPCG(15, 1))
	for first := range 256 {
		b := each(14, 0)
		for i := range b {
			b[i] = byte(c.Uint32() >> c.IntN(32))
		}
		b[0] = byte(first) &^ freeBit
		for n := 1; n <= len(b); n++ {
			want := wantAsInWords(t, b[:n])
			wantRead(t, then([]byte{b[0] | freeBit}, b[1:n]), want)
		}
	}
}

func TestReadTheSum(t *testing.T) {
	for _, first := range []byte{0, 32, 64, 96, 128, 160, 192, 224} {
		b := then([]byte{first}, each(13, 0))
		without, with := wantAsInWords(t, b), wantAsInWords(t, then([]byte{first | sumBit}, b[1:]))
		if without.h.Sum || !with.h.Sum {
			t.Errorf("Sum of %d, and of %d: %v, %v", first, first|sumBit, without.h.Sum, with.h.Sum)
		}
		with.h.Sum = false
		if with != without {
			t.Errorf("%d with a sum: %v; without %v", first, with, without)
		}
	}
}

func TestReadWindow(t *testing.T) {
	for _, c := range []struct {
		w      byte
		window uint64
	}{
		{0, 1024},
		{1, 1024 + 128},
		{2, 1024 + 256},
		{7, 1024 + 7*128},
		{8, 2048},
		{9, 2048 + 256},
		{15, 2048 + 7*256},
		{80, 1 << 20},
		{81, 1<<20 + 1<<17},
		{176, 1 << 32},
		{177, 1<<32 + 1<<29},
		{247, 1<<40 + 7<<37},
		{248, 1 << 41},
		{249, 1<<41 + 1<<38},
		{255, 4123168604160}, // 1<<41 + 7<<38
	} {
		wantRead(t, []byte{0, c.w}, head(c.window, 0, false, false, 2))
		wantRead(t, []byte{sumBit | 64, c.w, 1, 2}, head(c.window, 769, true, true, 4))
		wantRead(t, []byte{2 | 128, c.w, 0, 0, 1, 2, 3, 4}, head(c.window, 0x04030201, true, false, 8))
	}
	ahead := uint64(0)
	for w := range 256 {
		got := wantAsInWords(t, []byte{0, byte(w)})
		if got.h.Window != windowInWords(byte(w)) || got.h.Window <= ahead {
			t.Errorf("the window of %d: %d, behind %d", w, got.h.Window, ahead)
		}
		ahead = got.h.Window
	}
}

func TestReadTheDictionarysNumber(t *testing.T) {
	for k, width := range []int{0, 1, 2, 4} {
		for _, first := range []byte{0, 32, 64, 96, 128, 160, 192, 224} {
			first |= byte(k)
			window, _, size := widths(first)
			ahead, behind := then([]byte{first}, each(window, 3)), each(size, 5)
			if got := wantAsInWords(t, then(ahead, each(width, 0), behind)); got.err != api.OK {
				t.Errorf("%d, with a dictionary's number of 0: %v", first, got)
			}
			for place := range width { // of all bytes only one isn't 0
				for _, c := range []byte{1, 128, 255} {
					number := each(width, 0)
					number[place] = c
					wantRead(t, then(ahead, number, behind), refusal(api.ErrDict))
					// Bytes that lack are told ahead of it.
					for left := range size {
						wantRead(t, then(ahead, number, behind[:left]), refusal(api.ErrShort))
					}
					for left := range width {
						wantRead(t, then(ahead, number[:left]), refusal(api.ErrShort))
					}
				}
			}
			if width > 0 {
				wantRead(t, then(ahead, each(width, 255), behind), refusal(api.ErrDict))
			}
		}
	}
}

func TestReadSize(t *testing.T) {
	for s, c := range []struct {
		width int
		more  uint64
	}{{1, 0}, {2, 256}, {4, 0}, {8, 0}} {
		greatest := numberOf(each(c.width, 255))
		for _, x := range []uint64{0, 1, 2, 128, 254, 255, greatest / 2, greatest/2 + 1, greatest - 1, greatest} {
			b := lowestFirst(x, c.width)
			size := x + c.more
			wantRead(t, then([]byte{segmentBit | byte(s)*64}, b), head(size, size, true, false, 1+c.width))
			wantRead(t, then([]byte{segmentBit | sumBit | 3 | byte(s)*64}, each(4, 0), b), head(size, size, true, true, 5+c.width))
			if s == 0 {
				continue
			}
			wantRead(t, then([]byte{byte(s) * 64, 17}, b), head(1<<12+1<<9, size, true, false, 2+c.width))
			wantRead(t, then([]byte{1 | byte(s)*64, 17, 0}, b), head(1<<12+1<<9, size, true, false, 3+c.width))
		}
	}
}

// Of s 0 a size is told only where it is one segment.
func TestReadSizeThatIsntTold(t *testing.T) {
	wantRead(t, []byte{0, 0}, head(1024, 0, false, false, 2))
	wantRead(t, []byte{0, 0, 9}, head(1024, 0, false, false, 2))
	wantRead(t, []byte{sumBit, 0, 9}, head(1024, 0, false, true, 2))
	wantRead(t, []byte{1, 0, 0, 9}, head(1024, 0, false, false, 3))
	wantRead(t, []byte{segmentBit, 0}, head(0, 0, true, false, 2))
	wantRead(t, []byte{segmentBit, 9}, head(9, 9, true, false, 2))
	wantRead(t, []byte{segmentBit, 255}, head(255, 255, true, false, 2))
	wantRead(t, []byte{segmentBit}, refusal(api.ErrShort))
}

func TestReadWindowOfOneSegment(t *testing.T) {
	wantRead(t, then([]byte{segmentBit | 192}, each(8, 255)), head(math.MaxUint64, math.MaxUint64, true, false, 9))
	wantRead(t, then([]byte{segmentBit | 192}, each(8, 0)), head(0, 0, true, false, 9))
	wantRead(t, then([]byte{segmentBit | 192}, each(7, 0), []byte{128}), head(1<<63, 1<<63, true, false, 9))
	wantRead(t, then([]byte{segmentBit | 128}, each(4, 255)), head(math.MaxUint32, math.MaxUint32, true, false, 5))
	wantRead(t, then([]byte{segmentBit | 64}, each(2, 255)), head(65791, 65791, true, false, 3))
	wantRead(t, []byte{segmentBit | 64, 0, 0}, head(256, 256, true, false, 3))
}

func TestReadTheLongestHead(t *testing.T) {
	longest := then([]byte{192 | 3, 9}, each(4, 0), []byte{1, 2, 3, 4, 5, 6, 7, 8})
	wantRead(t, longest, head(2048+256, 0x0807060504030201, true, false, 14))
	for n := range longest {
		wantRead(t, longest[:n], refusal(api.ErrShort))
	}
}

func TestReadWithManyBytesBehind(t *testing.T) {
	for first := range 256 {
		b := then([]byte{byte(first)}, each(14, 0))
		want := wantAsInWords(t, b)
		wantRead(t, then(b, each(1<<20, byte(first))), want)
	}
}

func TestReadOfChance(t *testing.T) {
	c := rand.New(rand.NewPCG(15, 2))
	taken := 0
	for range 40_000 {
		b := each(c.IntN(17), 0)
		for i := range b {
			if i == 0 || c.IntN(3) > 0 {
				b[i] = byte(c.Uint32() >> c.IntN(32))
			}
		}
		if wantAsInWords(t, b).err == api.OK {
			taken++
		}
	}
	if taken < 1000 {
		t.Errorf("only %d were taken", taken)
	}
}

// P15.2

// sizes are those at the edges of how a size is told, and beside them.
func sizes() []uint64 {
	return []uint64{
		0, 1, 2, 5, 127, 128, 254, 255,
		256, 257, 511, 512, 65534, 65535, 65536, 65537, 65790, 65791,
		65792, 65793, 1 << 17, 1<<24 - 1, 1 << 24, 1<<31 - 1, 1 << 31, 1<<32 - 2, 1<<32 - 1,
		1 << 32, 1<<32 + 1, 1<<32 + 255, 1<<32 + 256, 1<<40 + 7, 1<<63 - 1, 1 << 63, 1<<64 - 2, 1<<64 - 1,
	}
}

// writtenInWords is what P15.2 says of Write: s, and how many bytes that has, told by which sizes there are.
func writtenInWords(size uint64, sum bool) []byte {
	first := byte(segmentBit)
	if sum {
		first |= sumBit
	}
	magic := []byte{0x28, 0xB5, 0x2F, 0xFD}
	switch {
	case size <= 255:
		return then(magic, []byte{first, byte(size)})
	case size <= 65791:
		return then(magic, []byte{first | 64}, lowestFirst(size-256, 2))
	case size <= math.MaxUint32:
		return then(magic, []byte{first | 128}, lowestFirst(size, 4))
	}
	return then(magic, []byte{first | 192}, lowestFirst(size, 8))
}

// wantWritten fails, unless Write tells a size as it is promised, in memory of its own, and Read reads it as that.
func wantWritten(t *testing.T, size uint64, sum bool) {
	t.Helper()
	want := writtenInWords(size, sum)
	got, again := frame.Write(size, sum), frame.Write(size, sum)
	if !bytes.Equal(got, want) || !bytes.Equal(again, want) {
		t.Errorf("Write(%d, %v): %d, once more %d; want %d", size, sum, got, again, want)
	}
	clear(again[:cap(again)])
	if !bytes.Equal(got, want) || !bytes.Equal(frame.Write(size, sum), want) {
		t.Errorf("Write(%d, %v): its answers share memory", size, sum)
	}
	if len(got) < 6 || numberOf(got[:4]) != frame.Magic {
		t.Fatalf("Write(%d, %v): %d begins with another number", size, sum, got)
	}
	wantRead(t, got[4:], head(size, size, true, sum, len(got)-4))
	if fewer := fewestBytes(size); len(got) != 4+1+fewer {
		t.Errorf("Write(%d, %v): %d bytes; want %d", size, sum, len(got), 5+fewer)
	}
}

// fewestBytes is in how many bytes a size may be told, at the least.
func fewestBytes(size uint64) int {
	for s, width := range []int{1, 2, 4} {
		for _, x := range []uint64{size, size - 256} {
			b := then([]byte{segmentBit | byte(s)*64}, lowestFirst(x, width))
			if inWords(b).h.Size == size {
				return width
			}
		}
	}
	return 8
}

func TestWrite(t *testing.T) {
	for _, c := range []struct {
		size uint64
		sum  bool
		want []byte
	}{
		{5, false, []byte{40, 181, 47, 253, 32, 5}},
		{5, true, []byte{40, 181, 47, 253, 36, 5}},
		{0, false, []byte{40, 181, 47, 253, 32, 0}},
		{0, true, []byte{40, 181, 47, 253, 36, 0}},
		{255, false, []byte{40, 181, 47, 253, 32, 255}},
		{256, false, []byte{40, 181, 47, 253, 96, 0, 0}},
		{256, true, []byte{40, 181, 47, 253, 100, 0, 0}},
		{65791, false, []byte{40, 181, 47, 253, 96, 255, 255}},
		{65792, false, []byte{40, 181, 47, 253, 160, 0, 1, 1, 0}},
		{65792, true, []byte{40, 181, 47, 253, 164, 0, 1, 1, 0}},
		{1<<32 - 1, false, []byte{40, 181, 47, 253, 160, 255, 255, 255, 255}},
		{1 << 32, false, []byte{40, 181, 47, 253, 224, 0, 0, 0, 0, 1, 0, 0, 0}},
		{1 << 32, true, []byte{40, 181, 47, 253, 228, 0, 0, 0, 0, 1, 0, 0, 0}},
		{1<<64 - 1, true, []byte{40, 181, 47, 253, 228, 255, 255, 255, 255, 255, 255, 255, 255}},
	} {
		if got := frame.Write(c.size, c.sum); !bytes.Equal(got, c.want) {
			t.Errorf("Write(%d, %v): %d; want %d", c.size, c.sum, got, c.want)
		}
	}
}

func TestWriteAtTheEdges(t *testing.T) {
	for _, size := range sizes() {
		wantWritten(t, size, false)
		wantWritten(t, size, true)
	}
	if frame.Magic != 0xFD2FB528 {
		t.Errorf("Magic: %x", uint32(frame.Magic))
	}
}

func TestWriteOfChance(t *testing.T) {
	c := rand.New(rand.NewPCG(15, 3))
	for range 5_000 {
		wantWritten(t, c.Uint64()>>c.IntN(64), c.IntN(2) == 0)
	}
}

// P15.3

// block is what ReadBlock tells.
type block struct {
	x   frame.Block
	err api.Errno
}

// blockInWords is what P15.3 says of ReadBlock.
func blockInWords(b []byte) block {
	if len(b) < 3 {
		return block{err: api.ErrShort}
	}
	x := numberOf(b[:3])
	kind := int(x / 2 % 4)
	if kind == 3 {
		return block{err: api.ErrForm}
	}
	return block{x: frame.Block{Last: x%2 == 1, Kind: kind, Size: int(x / 8)}}
}

// wantBlock fails, unless ReadBlock tells this.
func wantBlock(t *testing.T, b []byte, want block) {
	t.Helper()
	read := func(b []byte) block {
		x, err := frame.ReadBlock(b)
		return block{x, err}
	}
	wantTold(t, "ReadBlock", read, blockInWords, b, want, want.err == api.ErrShort)
}

func TestReadBlock(t *testing.T) {
	for _, c := range []struct {
		b    []byte
		want block
	}{
		{[]byte{0, 0, 0}, block{x: frame.Block{Last: false, Kind: frame.Raw, Size: 0}}},
		{[]byte{1, 0, 0}, block{x: frame.Block{Last: true, Kind: frame.Raw, Size: 0}}},
		{[]byte{2, 0, 0}, block{x: frame.Block{Last: false, Kind: frame.Same, Size: 0}}},
		{[]byte{3, 0, 0}, block{x: frame.Block{Last: true, Kind: frame.Same, Size: 0}}},
		{[]byte{4, 0, 0}, block{x: frame.Block{Last: false, Kind: frame.Packed, Size: 0}}},
		{[]byte{5, 0, 0}, block{x: frame.Block{Last: true, Kind: frame.Packed, Size: 0}}},
		{[]byte{8, 0, 0}, block{x: frame.Block{Size: 1}}},
		{[]byte{0, 1, 0}, block{x: frame.Block{Size: 32}}},
		{[]byte{0, 0, 1}, block{x: frame.Block{Size: 8192}}},
		{[]byte{0, 0, 128}, block{x: frame.Block{Size: 1 << 20}}},
		{[]byte{248, 255, 255}, block{x: frame.Block{Last: false, Kind: frame.Raw, Size: 1<<21 - 1}}},
		{[]byte{251, 255, 255}, block{x: frame.Block{Last: true, Kind: frame.Same, Size: 1<<21 - 1}}},
		{[]byte{253, 255, 255}, block{x: frame.Block{Last: true, Kind: frame.Packed, Size: 1<<21 - 1}}},

		// Of another program.
		{unhex(t, "090000"), block{x: frame.Block{Last: true, Kind: frame.Raw, Size: 1}}},
		{unhex(t, "4d0000"), block{x: frame.Block{Last: true, Kind: frame.Packed, Size: 9}}},
		{unhex(t, "540000"), block{x: frame.Block{Last: false, Kind: frame.Packed, Size: 10}}},
		{unhex(t, "000010"), block{x: frame.Block{Last: false, Kind: frame.Raw, Size: 131072}}},
		{unhex(t, "020010"), block{x: frame.Block{Last: false, Kind: frame.Same, Size: 131072}}},
	} {
		wantBlock(t, c.b, c.want)
	}
	if frame.Raw != 0 || frame.Same != 1 || frame.Packed != 2 {
		t.Errorf("the kinds: %d, %d, %d", frame.Raw, frame.Same, frame.Packed)
	}
}

func TestReadBlockOfTooFewBytes(t *testing.T) {
	wantBlock(t, nil, block{err: api.ErrShort})
	wantBlock(t, []byte{}, block{err: api.ErrShort})
	for c := range 256 { // also of those whose kind is 3
		wantBlock(t, []byte{byte(c)}, block{err: api.ErrShort})
		wantBlock(t, []byte{byte(c), 0}, block{err: api.ErrShort})
		wantBlock(t, []byte{byte(c), 255}, block{err: api.ErrShort})
	}
}

func TestReadBlockOfNoKind(t *testing.T) {
	for _, c := range []byte{6, 7, 14, 15, 254, 255} {
		wantBlock(t, []byte{c, 0, 0}, block{err: api.ErrForm})
		wantBlock(t, []byte{c, 255, 255}, block{err: api.ErrForm})
	}
}

func TestReadBlockOfEveryByte(t *testing.T) {
	for c := range 256 {
		for _, others := range [][]byte{{0, 0}, {255, 255}, {0, 255}, {7, 0}} {
			b := then([]byte{byte(c)}, others)
			wantBlock(t, b, blockInWords(b))
			b = []byte{others[0], byte(c), others[1]}
			wantBlock(t, b, blockInWords(b))
			b = then(others, []byte{byte(c)})
			wantBlock(t, b, blockInWords(b))
		}
	}
}

// wantBlockWritten fails, unless WriteBlock answers this, in memory of its own, and what it wrote is read.
func wantBlockWritten(t *testing.T, x frame.Block, want []byte, wantErr api.Errno) {
	t.Helper()
	got, err := frame.WriteBlock(x)
	again, errAgain := frame.WriteBlock(x)
	if !bytes.Equal(got, want) || err != wantErr || !bytes.Equal(again, want) || errAgain != wantErr {
		t.Errorf("WriteBlock(%v): %d, %v, once more %d, %v; want %d, %v", x, got, err, again, errAgain, want, wantErr)
	}
	clear(again[:cap(again)])
	if !bytes.Equal(got, want) {
		t.Errorf("WriteBlock(%v): its answers share memory", x)
	}
	if wantErr == api.OK {
		wantBlock(t, got, block{x: x})
	}
}

// blockBytes is what P15.3 says of a block that may be written.
func blockBytes(x frame.Block) []byte {
	number := uint64(x.Size)*8 + uint64(x.Kind)*2
	if x.Last {
		number++
	}
	return lowestFirst(number, 3)
}

func TestWriteBlock(t *testing.T) {
	for _, c := range []struct {
		x    frame.Block
		want []byte
	}{
		{frame.Block{}, []byte{0, 0, 0}},
		{frame.Block{Last: true}, []byte{1, 0, 0}},
		{frame.Block{Kind: frame.Same}, []byte{2, 0, 0}},
		{frame.Block{Kind: frame.Packed}, []byte{4, 0, 0}},
		{frame.Block{Last: true, Kind: frame.Same, Size: 9}, []byte{75, 0, 0}},
		{frame.Block{Last: true, Kind: frame.Packed, Size: 9}, []byte{77, 0, 0}},
		{frame.Block{Size: api.MaxBlock}, []byte{0, 0, 16}},
		{frame.Block{Size: 1<<21 - 1}, []byte{248, 255, 255}},
		{frame.Block{Last: true, Kind: frame.Packed, Size: 1<<21 - 1}, []byte{253, 255, 255}},
	} {
		wantBlockWritten(t, c.x, c.want, api.OK)
	}
}

// blockSizes are those at the edges: that may be, and that may not.
func blockSizes() (may, not []int) {
	may = []int{0, 1, 2, 7, 8, 31, 32, 255, 256, 8191, 8192, 131071, 131072, 131073, 1 << 20, 1<<21 - 2, 1<<21 - 1}
	not = []int{math.MinInt, math.MinInt + 1, math.MinInt32, -1 << 21, -(1 << 21) + 1, -2, -1, 1 << 21, 1<<21 + 1, 1 << 22, math.MaxInt32, 1 << 32, 1 << 61, math.MaxInt}
	return may, not
}

func TestWriteBlockAtTheEdges(t *testing.T) {
	may, not := blockSizes()
	for _, last := range []bool{false, true} {
		for kind := frame.Raw; kind <= frame.Packed; kind++ {
			for _, size := range may {
				x := frame.Block{Last: last, Kind: kind, Size: size}
				wantBlockWritten(t, x, blockBytes(x), api.OK)
			}
			for _, size := range not {
				wantBlockWritten(t, frame.Block{Last: last, Kind: kind, Size: size}, nil, api.ErrArg)
			}
		}
		for _, kind := range []int{math.MinInt, -4, -3, -2, -1, 3, 4, 5, 256, 257, 258, 1 << 32, math.MaxInt} {
			for _, size := range append(may, not...) {
				wantBlockWritten(t, frame.Block{Last: last, Kind: kind, Size: size}, nil, api.ErrArg)
			}
		}
	}
}

// P15.4

func TestEveryBlockThatIsWrittenIsRead(t *testing.T) {
	step := 1
	if testing.Short() {
		step = 997
	}
	b := make([]byte, 3)
	for number := 0; number < 1<<24; number += step {
		b[0], b[1], b[2] = byte(number), byte(number>>8), byte(number>>16)
		want := blockInWords(b)
		x, err := frame.ReadBlock(b)
		if x != want.x || err != want.err {
			t.Fatalf("ReadBlock(%d): %v, %v; want %v", b, x, err, want)
		}
		if err != api.OK {
			continue
		}
		again, err := frame.WriteBlock(x)
		if err != api.OK || !bytes.Equal(again, b) {
			t.Fatalf("WriteBlock(%v): %d, %v; want %d", x, again, err, b)
		}
	}
}

func TestWhatIsWrittenIsRead(t *testing.T) {
	c := rand.New(rand.NewPCG(15, 4))
	for range 20_000 {
		size, sum := c.Uint64()>>c.IntN(64), c.IntN(2) == 0
		b := frame.Write(size, sum)
		h, n, err := frame.Read(b[4:])
		if want := (frame.Header{Window: size, Size: size, Known: true, Sum: sum}); h != want || n != len(b)-4 || err != api.OK {
			t.Errorf("Read of Write(%d, %v): %v, %d, %v", size, sum, h, n, err)
		}
	}
}
