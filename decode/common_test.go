package decode_test

import (
	"bytes"
	"encoding/hex"
	"fmt"
	"slices"
	"testing"

	"lighterman/api"
	"lighterman/decode"
	"lighterman/execute"
	"lighterman/frame"
	"lighterman/literals"
	"lighterman/sequences"
	"lighterman/xxh"
)

// What all tests of the package lay frames out with, and hold answers against.

// The numbers that frames begin with, as the chapter has them.
const (
	framed       = 0xFD2FB528
	firstSkipped = 407710288
	lastSkipped  = 407710303
)

// The bits of a head's first byte.
const (
	sumBit     = 4
	noFrameBit = 8
	segmentBit = 32
)

const (
	mostBlock = 131072
	wide      = 1 << 30 // more bytes than any of these frames makes
)

// then are lists one behind the other.
func then(lists ...[]byte) []byte { return slices.Concat(lists...) }

// each is a list of n times the same.
func each(n int, c byte) []byte { return bytes.Repeat([]byte{c}, n) }

// number is one in so many bytes, the lowest first.
func number(x uint64, width int) []byte {
	var b []byte
	for range width {
		b = append(b, byte(x%256))
		x /= 256
	}
	return b
}

// numberOf is the number that bytes are, the lowest first.
func numberOf(b []byte) uint64 {
	var x uint64
	for _, c := range slices.Backward(b) {
		x = x*256 + uint64(c)
	}
	return x
}

// byHex are bytes of digits by 16.
func byHex(text string) []byte {
	b, err := hex.DecodeString(text)
	if err != nil {
		panic(err)
	}
	return b
}

// must is what a layer below answers, that never refuses it here.
func must[T any](x T, err api.Errno) T {
	if err != api.OK {
		panic(err)
	}
	return x
}

// head is what a frame begins with: a window, told by a byte, or one segment.
type head struct {
	window  byte // 0: 1024
	segment bool
	known   bool
	size    uint64
	sum     bool
}

// ofWindow is a head of a window alone.
func ofWindow(w byte) head { return head{window: w} }

// small is one of 1024 bytes.
func small() head { return ofWindow(0) }

// sized is the small one with a size that is told.
func sized(size uint64) head { return head{known: true, size: size} }

// segment is a head of one segment.
func segment(size uint64) head { return head{segment: true, known: true, size: size} }

// withSum is the head of a frame that has a sum.
func (h head) withSum() head {
	h.sum = true
	return h
}

// bytes is the head as it is written, with the frame's first number.
func (h head) bytes() []byte {
	var first byte
	var behind []byte
	if !h.segment {
		behind = append(behind, h.window)
	} else {
		first |= segmentBit
	}
	if h.known {
		first |= 3 << 6
		behind = append(behind, number(h.size, 8)...)
	}
	if h.sum {
		first |= sumBit
	}
	return then(number(framed, 4), []byte{first}, behind)
}

// of is a frame of blocks, the last of which is told to be that.
func (h head) of(blocks ...[]byte) []byte {
	b := h.bytes()
	for i, x := range blocks {
		x = bytes.Clone(x)
		if i == len(blocks)-1 {
			x[0] |= 1
		}
		b = append(b, x...)
	}
	return b
}

// block is a block that isn't the last one.
func block(kind, size int, b ...byte) []byte {
	return then(number(uint64(kind*2+size*8), 3), b)
}

// raw is a block of bytes as they are.
func raw(text string) []byte { return block(0, len(text), []byte(text)...) }

// same is a block of one byte again and again.
func same(c byte, n int) []byte { return block(1, n, c) }

// packed is a block of sections.
func packed(sections ...[]byte) []byte {
	b := then(sections...)
	return block(2, len(b), b...)
}

// plain is a section of literals as they are.
func plain(text string) []byte { return must(literals.Raw([]byte(text))) }

// row is a section of sequences.
func row(l ...api.Sequence) []byte { return must(sequences.Write(l)) }

// from is a sequence that copies from just so far ahead.
func from(literals, match, offset uint32) api.Sequence {
	return api.Sequence{Literals: literals, Match: match, Offset: offset + 3}
}

// repeated is a sequence of a repeated offset.
func repeated(literals, match, which uint32) api.Sequence {
	return api.Sequence{Literals: literals, Match: match, Offset: which}
}

// filled is a packed block that has just so many bytes, and what it makes.
func filled(size int) ([]byte, string) {
	for less := 2; less <= 4 && less <= size; less++ {
		text := string(each(size-less, 'f'))
		if x := packed(plain(text), row()); len(x) == 3+size {
			return x, text
		}
	}
	panic("no block has so many bytes")
}

// sumOf is what stands behind a frame that makes these bytes.
func sumOf(text string) []byte { return number(xxh.Of([]byte(text))%(1<<32), 4) }

// skipped is a frame that is skipped.
func skipped(which int, b ...byte) []byte {
	return then(number(uint64(firstSkipped+which), 4), number(uint64(len(b)), 4), b)
}

// decoded is what Decode and Frames answer.
type decoded struct {
	b       []byte
	frames  int
	skipped int
	err     api.Errno
}

func (a decoded) is(b decoded) bool {
	return bytes.Equal(a.b, b.b) && a.frames == b.frames && a.skipped == b.skipped && a.err == b.err
}

func (a decoded) String() string {
	return fmt.Sprintf("%d bytes %.60q of %d frames, %d skipped, error %d", len(a.b), a.b, a.frames, a.skipped, int(a.err))
}

// refusal is an error, and nothing else.
func refusal(err api.Errno) decoded { return decoded{err: err} }

// made is what one frame makes.
func made(text string) decoded { return decoded{b: []byte(text), frames: 1} }

// bounds are what is handed in with frames.
type bounds struct{ log, most int }

// free are bounds that no frame here goes beyond, unless it is about them.
func free() bounds { return bounds{api.MaxLog, wide} }

// decode is what the layer answers; where Frames tells another error than Decode, or two calls differ, that is a fault.
func (w bounds) decode(t *testing.T, b []byte) decoded {
	t.Helper()
	got, err := decode.Decode(b, w.log, w.most)
	frames, skipped, errFrames := decode.Frames(b, w.log, w.most)
	if err != errFrames {
		t.Errorf("%s: Decode's error %d, Frames' %d", w.call(b), int(err), int(errFrames))
	}
	return decoded{got, frames, skipped, err}
}

// call tells a call.
func (w bounds) call(b []byte) string {
	return fmt.Sprintf("(%d bytes %x, %d, %d)", len(b), b[:min(len(b), 100)], w.log, w.most)
}

// inWords is what P16.1 and P16.2 say of frames.
func (w bounds) inWords(b []byte) decoded {
	if w.log < 10 || w.log > 22 || w.most < 0 {
		return refusal(api.ErrArg)
	}
	window := uint64(1)
	for range w.log {
		window *= 2
	}
	var all decoded
	for len(b) > 0 {
		if len(b) < 4 {
			return refusal(api.ErrShort)
		}
		first := numberOf(b[:4])
		b = b[4:]
		if first >= firstSkipped && first <= lastSkipped {
			if len(b) < 4 || uint64(len(b)-4) < numberOf(b[:4]) {
				return refusal(api.ErrShort)
			}
			b = b[4+numberOf(b[:4]):]
			all.skipped++
			continue
		}
		if first != framed {
			return refusal(api.ErrForm)
		}
		text, used, err := frameInWords(b, window, w.most-len(all.b))
		if err != api.OK {
			return refusal(err)
		}
		all.b = append(all.b, text...)
		all.frames++
		b = b[used:]
	}
	return all
}

// frameInWords is what P16.1 says of a frame behind its first number: its bytes, and how many it has; most: how many bytes it may make.
func frameInWords(b []byte, window uint64, most int) ([]byte, int, api.Errno) {
	h, at, err := frame.Read(b)
	if err != api.OK {
		return nil, 0, err
	}
	if h.Window > window || (h.Known && h.Size > uint64(most)) {
		return nil, 0, api.ErrBig
	}
	bound := uint64(mostBlock)
	if h.Window < bound {
		bound = h.Window
	}
	var all, weights []byte
	var tables sequences.Tables
	offsets := execute.Reps{1, 4, 8}
	for last := false; !last; {
		x, err := frame.ReadBlock(b[at:])
		if err != api.OK {
			return nil, 0, err
		}
		at += 3
		last = x.Last
		if uint64(x.Size) > bound {
			return nil, 0, api.ErrBig
		}
		size := x.Size
		if x.Kind == 1 {
			size = 1
		}
		if size > len(b)-at {
			return nil, 0, api.ErrShort
		}
		section := b[at : at+size]
		at += size
		switch x.Kind {
		case 0:
			all = append(all, section...)
		case 1:
			all = append(all, each(x.Size, section[0])...)
		case 2:
			var text []byte
			var l []api.Sequence
			if text, weights, size, err = literals.Read(section, weights); err != api.OK {
				return nil, 0, err
			}
			if l, tables, err = sequences.Read(section[size:], tables); err != api.OK {
				return nil, 0, err
			}
			if all, offsets, err = execute.Run(all, text, l, offsets, h.Window, int(bound)); err != api.OK {
				return nil, 0, err
			}
		}
		if len(all) > most {
			return nil, 0, api.ErrBig
		}
		if h.Known && uint64(len(all)) > h.Size {
			return nil, 0, api.ErrForm
		}
	}
	if h.Known && uint64(len(all)) < h.Size {
		return nil, 0, api.ErrForm
	}
	if h.Sum {
		if len(b)-at < 4 {
			return nil, 0, api.ErrShort
		}
		if numberOf(b[at:at+4]) != xxh.Of(all)%(1<<32) {
			return nil, 0, api.ErrSum
		}
		at += 4
	}
	return all, at, api.OK
}

// wantDecoded fails, unless frames are decoded to this, left as they are, in memory of its own, and once more.
func wantDecoded(t *testing.T, w bounds, b []byte, want decoded) {
	t.Helper()
	memory := then(b, each(40, 0xEE)) // with room behind
	given, ahead := memory[:len(b)], bytes.Clone(memory)
	got := w.decode(t, given)
	if !got.is(want) {
		t.Errorf("%s: %v; want %v", w.call(b), got, want)
	}
	if inWords := w.inWords(b); !inWords.is(want) {
		t.Errorf("%s: in words %v; want %v", w.call(b), inWords, want)
	}
	again, kept := w.decode(t, given), bytes.Clone(got.b)
	if !again.is(got) {
		t.Errorf("%s, once more: %v; at first %v", w.call(b), again, got)
	}
	clear(again.b[:cap(again.b)])
	if !bytes.Equal(memory, ahead) || !bytes.Equal(got.b, kept) {
		t.Errorf("%s: what was handed in was changed, or shares memory with the answer", w.call(b))
	}
	clear(memory)
	if !bytes.Equal(got.b, kept) {
		t.Errorf("%s: the answer changes with what was handed in", w.call(b))
	}
}

// wantRefused fails, unless frames are refused, alone and behind others.
func wantRefused(t *testing.T, w bounds, b []byte, err api.Errno) {
	t.Helper()
	ahead := then(skipped(3, 1, 2), small().of(raw("")))
	wantDecoded(t, w, b, refusal(err))
	wantDecoded(t, w, then(ahead, b), refusal(err))
}

// wantAsInWords fails, unless frames are decoded to what the promises say; it is that.
func wantAsInWords(t *testing.T, w bounds, b []byte) decoded {
	t.Helper()
	want := w.inWords(b)
	wantDecoded(t, w, b, want)
	return want
}
