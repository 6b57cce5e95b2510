package huff

import (
	"bytes"
	"slices"
	"testing"

	"lighterman/api"
)

// Streams of more than 65535 bytes can't come of symbols, as 32768 codes of 11 bits have 45056; so they are handed to join.

// sized are four streams of so many bytes, unlike each other.
func sized(sizes [streams]int) [streams][]byte {
	var parts [streams][]byte
	for i, n := range sizes {
		parts[i] = slices.Repeat([]byte{byte(i + 1)}, n)
	}
	return parts
}

func TestJoinOfLongStreams(t *testing.T) {
	for _, c := range []struct {
		sizes [streams]int
		head  []byte
	}{
		{[streams]int{1, 1, 1, 1}, []byte{1, 0, 1, 0, 1, 0}},
		{[streams]int{255, 256, 257, 7}, []byte{255, 0, 0, 1, 1, 1}},
		{[streams]int{65535, 1, 2, 3}, []byte{255, 255, 1, 0, 2, 0}},
		{[streams]int{1, 65535, 2, 3}, []byte{1, 0, 255, 255, 2, 0}},
		{[streams]int{1, 2, 65535, 3}, []byte{1, 0, 2, 0, 255, 255}},
		{[streams]int{1, 2, 3, 65535}, []byte{1, 0, 2, 0, 3, 0}},
		{[streams]int{1, 2, 3, 65536}, []byte{1, 0, 2, 0, 3, 0}},
		{[streams]int{65534, 65535, 65535, 200000}, []byte{254, 255, 255, 255, 255, 255}},
	} {
		parts := sized(c.sizes)
		b, err := join(parts)
		want := slices.Concat(c.head, parts[0], parts[1], parts[2], parts[3])
		if !bytes.Equal(b, want) || err != api.OK {
			t.Errorf("join of %d: %d bytes, %d; want %d", c.sizes, len(b), err, len(want))
		}
		again, err := part(b)
		for i := range parts {
			if !bytes.Equal(again[i], parts[i]) || err != api.OK {
				t.Errorf("part of %d: stream %d has %d bytes, %d", c.sizes, i, len(again[i]), err)
			}
		}
	}
}

func TestJoinRefusesTooLongStreams(t *testing.T) {
	for _, sizes := range [][streams]int{
		{65536, 1, 1, 1}, {1, 65536, 1, 1}, {1, 1, 65536, 1}, {65537, 1, 1, 1}, {1, 1, 131072, 1}, {1, 65535 + 65537, 1, 1}, {65536, 65536, 65536, 65536}, {65535, 65535, 65536, 65535},
	} {
		if b, err := join(sized(sizes)); b != nil || err != api.ErrArg {
			t.Errorf("join of %d: %d bytes, %d; want error %d", sizes, len(b), err, api.ErrArg)
		}
	}
}
