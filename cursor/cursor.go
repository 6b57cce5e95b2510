// Package cursor is reading and writing numbers and bytes one behind the other.
package cursor

import (
	"bytes"

	"lighterman/api"
)

const widest = 8 // bytes of the greatest number

// Reader reads bytes from the front; its first error stays.
type Reader struct {
	left []byte
	err  api.Errno
}

// NewReader is a reader of bytes.
func NewReader(b []byte) *Reader { return &Reader{left: bytes.Clone(b)} }

// Number is the next number, of so many bytes, the lowest first.
func (r *Reader) Number(n int) uint64 {
	var x uint64
	for i, c := range r.take(n, isWidth(n)) {
		x |= uint64(c) << (8 * i)
	}
	return x
}

// Bytes are the next bytes, so many.
func (r *Reader) Bytes(n int) []byte { return r.take(n, n >= 0) }

// Left is how many bytes are left.
func (r *Reader) Left() int {
	if r == nil {
		return 0
	}
	return len(r.left)
}

// Err is the first error.
func (r *Reader) Err() api.Errno {
	if r == nil {
		return api.ErrArg
	}
	return r.err
}

// End is the first error, or ErrLeft, if bytes are left.
func (r *Reader) End() api.Errno {
	if err := r.Err(); err != api.OK {
		return err
	}
	if r.Left() > 0 {
		return api.ErrLeft
	}
	return api.OK
}

// take cuts off the next n bytes; may: whether so many may be asked for.
//
// The reader's bytes are its own, and what is cut off is never looked at
// again; with its capacity cut off too, whoever appends to it can't reach
// the bytes that are left. So it is new memory without being copied again.
func (r *Reader) take(n int, may bool) []byte {
	switch {
	case r.Err() != api.OK:
		return nil
	case !may:
		r.err = api.ErrArg
		return nil
	case n > len(r.left):
		r.err = api.ErrShort
		return nil
	}
	next := r.left[:n:n]
	r.left = r.left[n:]
	return next
}

// Writer writes.
type Writer struct {
	all []byte
}

// NewWriter is one that wrote nothing yet.
func NewWriter() *Writer { return &Writer{} }

// Number writes a number, in so many bytes.
func (w *Writer) Number(x uint64, n int) {
	if w == nil || !isWidth(n) {
		return
	}
	for i := range n {
		w.all = append(w.all, byte(x>>(8*i)))
	}
}

// Bytes writes bytes.
func (w *Writer) Bytes(b []byte) {
	if w == nil {
		return
	}
	w.all = append(w.all, b...)
}

// Out are all bytes so far.
func (w *Writer) Out() []byte {
	if w == nil {
		return nil
	}
	return bytes.Clone(w.all)
}

// isWidth tells whether a number may have n bytes.
func isWidth(n int) bool { return n >= 1 && n <= widest }
