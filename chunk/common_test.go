package chunk_test

import (
	"bytes"
	"fmt"
	"math/bits"
	"math/rand/v2"
	"slices"
	"testing"

	"lighterman/api"
	"lighterman/chunk"
	"lighterman/decode"
	"lighterman/encode"
	"lighterman/frame"
	"lighterman/xxh"
)

// What all tests of the package make bytes and frames with, and hold answers against.

const (
	mostLevel = 9
	mostBytes = 65536 // of a part
	mostParts = 1024
)

// then are lists one behind the other.
func then(lists ...[]byte) []byte { return slices.Concat(lists...) }

// each is a list of n times the same byte.
func each(n int, c byte) []byte { return bytes.Repeat([]byte{c}, n) }

// chance are numbers of chance, the same ones for the same seed.
func chance(seed uint64) *rand.Rand { return rand.New(rand.NewPCG(19, seed)) }

// few are n bytes of chance, of so many kinds.
func few(c *rand.Rand, n, kinds int) []byte {
	b := make([]byte, n)
	for i := range b {
		b[i] = byte(c.IntN(kinds))
	}
	return b
}

// noise are n bytes of chance, of all kinds.
func noise(c *rand.Rand, n int) []byte { return few(c, n, 256) }

// words are n bytes of text, of few words.
func words(c *rand.Rand, n int) []byte {
	var all [][]byte
	for range 200 {
		word := few(c, 1+c.IntN(9), 26)
		for i := range word {
			word[i] += 'a'
		}
		all = append(all, append(word, ' '))
	}
	var b []byte
	for len(b) < n {
		b = append(b, all[min(c.IntN(200), c.IntN(200))]...)
	}
	return b[:n]
}

// copied are n bytes of chance that stood already, so far ahead.
func copied(c *rand.Rand, n, ahead int) []byte {
	b := noise(c, min(n, ahead))
	for len(b) < n {
		b = append(b, b[len(b)-ahead])
	}
	return b
}

// texts are n bytes of each of some kinds.
func texts(c *rand.Rand, n int) [][]byte {
	return [][]byte{
		noise(c, n), few(c, n, 2), few(c, n, 5), few(c, n, 129), few(c, n, 130), each(n, 0), each(n, 'a'), words(c, n),
		copied(c, n, 2), copied(c, n, 100), copied(c, n, 1+n/2), then(words(c, n/2), noise(c, n-n/2)),
	}
}

// number is one in so many bytes, the lowest first.
func number(x uint64, width int) []byte {
	var b []byte
	for range width {
		b = append(b, byte(x%256))
		x /= 256
	}
	return b
}

// head is what a frame begins with: a byte for a window, and a size, if that is told, else -1.
type head struct {
	window byte
	size   int
	sum    bool
}

// small is the head of a frame with a window of 1024, that tells no size.
func small() head { return head{size: -1} }

// sized is that with a size.
func sized(n int) head { return head{size: n} }

// withSum is the head of a frame that has a sum.
func (h head) withSum() head {
	h.sum = true
	return h
}

// bytes is the head as it is written, with the frame's first number.
func (h head) bytes() []byte {
	var first byte
	if h.sum {
		first |= 4
	}
	if h.size < 0 {
		return then(number(frame.Magic, 4), []byte{first, h.window})
	}
	return then(number(frame.Magic, 4), []byte{first | 3<<6, h.window}, number(uint64(h.size), 8))
}

// of is a frame of blocks, the last of which is told to be that.
func (h head) of(blocks ...[]byte) []byte {
	b := h.bytes()
	for i, x := range blocks {
		x = bytes.Clone(x)
		if i == len(blocks)-1 {
			x[0] |= 1
		}
		b = append(b, x...)
	}
	return b
}

// block is a block that isn't the last one.
func block(kind, size int, b ...byte) []byte { return then(number(uint64(kind*2+size*8), 3), b) }

// raw is a block of bytes as they are.
func raw(text string) []byte { return block(frame.Raw, len(text), []byte(text)...) }

// same is a block of one byte again and again.
func same(c byte, n int) []byte { return block(frame.Same, n, c) }

// packed is a block of sections.
func packed(sections ...byte) []byte { return block(frame.Packed, len(sections), sections...) }

// sumOf is what stands behind a frame that makes these bytes.
func sumOf(text string) []byte { return number(xxh.Of([]byte(text))%(1<<32), 4) }

// skipped is a frame that is skipped.
func skipped(which int, b ...byte) []byte {
	return then(number(uint64(0x184D2A50+which), 4), number(uint64(len(b)), 4), b)
}

// countInWords is what P19.1 says of Count, in 128 bits.
func countInWords(size uint64, part int) (int, api.Errno) {
	if part < 1 || part > mostBytes {
		return 0, api.ErrArg
	}
	low, over := bits.Add64(size, uint64(part)-1, 0)
	if over >= uint64(part) {
		return 0, api.ErrBig
	}
	n, _ := bits.Div64(over, low, uint64(part))
	if n > mostParts {
		return 0, api.ErrBig
	}
	return int(n), api.OK
}

// spanInWords is what P19.1 says of Span.
func spanInWords(size uint64, part, i int) (uint64, int, api.Errno) {
	n, err := countInWords(size, part)
	if err != api.OK {
		return 0, 0, err
	}
	if i < 0 || i >= n {
		return 0, 0, api.ErrRange
	}
	var from uint64
	left := size
	for range i {
		from += uint64(part)
		left -= uint64(part)
	}
	if left > uint64(part) {
		return from, part, api.OK
	}
	return from, int(left), api.OK
}

// wantCount fails, unless Count answers this.
func wantCount(t *testing.T, size uint64, part, want int, wantErr api.Errno) {
	t.Helper()
	if n, err := chunk.Count(size, part); n != want || err != wantErr {
		t.Errorf("Count(%d, %d): %d, error %d; want %d, error %d", size, part, n, int(err), want, int(wantErr))
	}
}

// wantSpan fails, unless Span answers this.
func wantSpan(t *testing.T, size uint64, part, i int, wantFrom uint64, want int, wantErr api.Errno) {
	t.Helper()
	if from, n, err := chunk.Span(size, part, i); from != wantFrom || n != want || err != wantErr {
		t.Errorf("Span(%d, %d, %d): %d, %d, error %d; want %d, %d, error %d", size, part, i, from, n, int(err), wantFrom, want, int(wantErr))
	}
}

// lengthOfFirst is how many bytes the first frame has; 0, if it is skipped, or isn't there. What it is asked of has no faults.
func lengthOfFirst(b []byte) int {
	if len(b) < 4 || !bytes.Equal(b[:4], number(frame.Magic, 4)) {
		return 0
	}
	h, used, _ := frame.Read(b[4:])
	at := 4 + used
	for last := false; !last; {
		x, err := frame.ReadBlock(b[at:])
		if err != api.OK {
			return 0
		}
		at += 3
		last = x.Last
		if x.Kind == frame.Same {
			at++
		} else {
			at += x.Size
		}
	}
	if h.Sum {
		at += 4
	}
	return at
}

// unpackInWords is what P19.2 says of Unpack.
func unpackInWords(kind byte, b []byte, size int) ([]byte, api.Errno) {
	if size < 0 || size > mostBytes {
		return nil, api.ErrArg
	}
	switch kind {
	case 0:
		if len(b) == size {
			return b, api.OK
		}
	case 1:
		made, err := decode.Decode(b, 22, size)
		if err != api.OK {
			return nil, err
		}
		if len(b) > 0 && lengthOfFirst(b) == len(b) && len(made) == size {
			return made, api.OK
		}
	}
	return nil, api.ErrForm
}

// callUnpack tells a call.
func callUnpack(kind byte, b []byte, size int) string {
	return fmt.Sprintf("Unpack(%d, %d bytes %x, %d)", kind, len(b), b[:min(len(b), 60)], size)
}

// wantUnpacked fails, unless what was sent is unpacked to this, left as it is, in memory of its own, and once more.
func wantUnpacked(t *testing.T, kind byte, b []byte, size int, want []byte, wantErr api.Errno) {
	t.Helper()
	memory := then(b, []byte("behind all")) // with room behind
	given, ahead := memory[:len(b)], bytes.Clone(memory)
	got, err := chunk.Unpack(kind, given, size)
	if !bytes.Equal(got, want) || err != wantErr {
		t.Errorf("%s: %d bytes %.40q, error %d; want %d %.40q, error %d", callUnpack(kind, b, size), len(got), got, int(err), len(want), want, int(wantErr))
	}
	kept := bytes.Clone(got)
	again, errAgain := chunk.Unpack(kind, slices.Clip(given), size)
	if !bytes.Equal(again, got) || errAgain != err {
		t.Errorf("%s, once more: %d bytes, error %d; at first %d, error %d", callUnpack(kind, b, size), len(again), int(errAgain), len(got), int(err))
	}
	clear(again[:cap(again)])
	if !bytes.Equal(memory, ahead) || !bytes.Equal(got, kept) {
		t.Errorf("%s: what was handed in was changed, or shares memory with the answer", callUnpack(kind, b, size))
	}
	clear(memory)
	if !bytes.Equal(got, kept) {
		t.Errorf("%s: the answer changes with what was handed in", callUnpack(kind, ahead[:len(b)], size))
	}
}

// wantAsInWords fails, unless what was sent is unpacked to what the promise says; it is the error of that.
func wantAsInWords(t *testing.T, kind byte, b []byte, size int) api.Errno {
	t.Helper()
	want, err := unpackInWords(kind, b, size)
	wantUnpacked(t, kind, b, size, want, err)
	return err
}

// wantNotUnpacked fails, unless what was sent is refused, with nothing beside the error.
func wantNotUnpacked(t *testing.T, kind byte, b []byte, size int, err api.Errno) {
	t.Helper()
	wantUnpacked(t, kind, b, size, nil, err)
}

// callPack tells a call.
func callPack(b []byte, level int) string {
	return fmt.Sprintf("Pack(%d bytes %.40q, %d)", len(b), b, level)
}

// wantPacked fails, unless a part is packed as the promise says, left as it is, in memory of its own, and once more, and is unpacked as it was; it is how it is sent.
func wantPacked(t *testing.T, b []byte, level int) (byte, []byte) {
	t.Helper()
	wantKind, want := byte(0), b
	if x, err := encode.Encode(b, level, false); err != api.OK {
		t.Fatalf("%s: encode.Encode tells %d", callPack(b, level), int(err))
	} else if len(x) < len(b) {
		wantKind, want = 1, x
	}
	memory := then(b, []byte("behind all")) // with room behind
	given, ahead := memory[:len(b)], bytes.Clone(memory)
	kind, x, err := chunk.Pack(given, level)
	if kind != wantKind || !bytes.Equal(x, want) || err != api.OK || len(x) > len(b) {
		t.Errorf("%s: kind %d, %d bytes %.40q, error %d; want kind %d, %d bytes %.40q", callPack(b, level), kind, len(x), x, int(err), wantKind, len(want), want)
	}
	kept := bytes.Clone(x)
	kindAgain, again, errAgain := chunk.Pack(slices.Clip(given), level)
	if kindAgain != kind || !bytes.Equal(again, x) || errAgain != err {
		t.Errorf("%s, once more: kind %d, %d bytes, error %d", callPack(b, level), kindAgain, len(again), int(errAgain))
	}
	clear(again[:cap(again)])
	if !bytes.Equal(memory, ahead) || !bytes.Equal(x, kept) {
		t.Errorf("%s: what was handed in was changed, or shares memory with the answer", callPack(b, level))
	}
	wantUnpacked(t, kind, x, len(b), b, api.OK)
	clear(memory)
	if !bytes.Equal(x, kept) {
		t.Errorf("%s: the answer changes with what was handed in", callPack(ahead[:len(b)], level))
	}
	return kind, kept
}

// wantNotPacked fails, unless a part is refused, with nothing beside the error.
func wantNotPacked(t *testing.T, b []byte, level int) {
	t.Helper()
	if kind, x, err := chunk.Pack(b, level); kind != 0 || len(x) > 0 || err != api.ErrArg {
		t.Errorf("%s: kind %d, %d bytes, error %d; want ErrArg alone", callPack(b, level), kind, len(x), int(err))
	}
}
