package cursor_test

import (
	"bytes"
	"fmt"
	"math"
	"testing"

	"lighterman/api"
	"lighterman/cursor"
)

func Example() {
	w := cursor.NewWriter()
	w.Number(513, 2)
	w.Bytes([]byte("abc"))
	r := cursor.NewReader(w.Out())
	x, b := r.Number(2), r.Bytes(3)
	fmt.Println(x, string(b), r.End() == api.OK)
	// Output: 513 abc true
}

// wantReader fails, unless so many bytes are left and the errors are these.
func wantReader(t *testing.T, r *cursor.Reader, left int, err, end api.Errno) {
	t.Helper()
	if r.Left() != left || r.Err() != err || r.End() != end {
		t.Errorf("Left, Err, End: %d, %d, %d; want %d, %d, %d", r.Left(), r.Err(), r.End(), left, err, end)
	}
}

func wantBytes(t *testing.T, got []byte, want ...byte) {
	t.Helper()
	if !bytes.Equal(got, want) {
		t.Errorf("got %v, want %v", got, want)
	}
}

// P1.1

func TestReaderNumberOfEachWidth(t *testing.T) {
	b := []byte{0x81, 2, 0x83, 4, 0x85, 6, 0x87, 0xf8, 9}
	want := []uint64{
		0x81, 0x0281, 0x830281, 0x04830281, 0x8504830281,
		0x068504830281, 0x87068504830281, 0xf887068504830281,
	}
	for i, x := range want {
		r := cursor.NewReader(b)
		if got := r.Number(i + 1); got != x {
			t.Errorf("Number(%d): %x, want %x", i+1, got, x)
		}
		wantReader(t, r, len(b)-i-1, api.OK, api.ErrLeft)
	}
}

func TestReaderNumberAtItsEdges(t *testing.T) {
	r := cursor.NewReader(append(bytes.Repeat([]byte{0xff}, 8), make([]byte, 8)...))
	if x := r.Number(8); x != math.MaxUint64 {
		t.Errorf("the greatest number: %d", x)
	}
	if x := r.Number(8); x != 0 {
		t.Errorf("the least number: %d", x)
	}
	wantReader(t, r, 0, api.OK, api.OK)
}

func TestReaderGoesOnFromCallToCall(t *testing.T) {
	r := cursor.NewReader([]byte{1, 2, 3, 4, 5, 6, 7})
	if x := r.Number(2); x != 513 {
		t.Errorf("Number(2): %d", x)
	}
	wantReader(t, r, 5, api.OK, api.ErrLeft)
	wantBytes(t, r.Bytes(3), 3, 4, 5)
	wantReader(t, r, 2, api.OK, api.ErrLeft)
	if x := r.Number(1); x != 6 {
		t.Errorf("Number(1): %d", x)
	}
	wantBytes(t, r.Bytes(1), 7)
	wantReader(t, r, 0, api.OK, api.OK)
}

func TestReaderNumberOfNoSuchWidth(t *testing.T) {
	for _, n := range []int{0, -1, 9, 10, 16, math.MinInt, math.MaxInt} {
		for _, size := range []int{0, 3, 20} {
			r := cursor.NewReader(bytes.Repeat([]byte{7}, size))
			if x := r.Number(n); x != 0 {
				t.Errorf("Number(%d) of %d bytes: %d", n, size, x)
			}
			wantReader(t, r, size, api.ErrArg, api.ErrArg)
		}
	}
}

func TestReaderNumberTooShort(t *testing.T) {
	for n := 1; n <= 8; n++ {
		for size := range n {
			r := cursor.NewReader(bytes.Repeat([]byte{7}, size))
			if x := r.Number(n); x != 0 {
				t.Errorf("Number(%d) of %d bytes: %d", n, size, x)
			}
			wantReader(t, r, size, api.ErrShort, api.ErrShort)
		}
	}
}

func TestReaderBytes(t *testing.T) {
	r := cursor.NewReader([]byte{1, 2, 3})
	wantBytes(t, r.Bytes(0))
	wantReader(t, r, 3, api.OK, api.ErrLeft)
	wantBytes(t, r.Bytes(3), 1, 2, 3)
	wantReader(t, r, 0, api.OK, api.OK)
	wantBytes(t, r.Bytes(0))
	wantReader(t, r, 0, api.OK, api.OK)

	r = cursor.NewReader(bytes.Repeat([]byte{5}, 70000))
	wantBytes(t, r.Bytes(69999), bytes.Repeat([]byte{5}, 69999)...)
	wantReader(t, r, 1, api.OK, api.ErrLeft)
}

func TestReaderBytesRefused(t *testing.T) {
	for _, c := range []struct {
		n, size int
		err     api.Errno
	}{
		{-1, 3, api.ErrArg},
		{-1, 0, api.ErrArg},
		{math.MinInt, 3, api.ErrArg},
		{1, 0, api.ErrShort},
		{4, 3, api.ErrShort},
		{math.MaxInt, 3, api.ErrShort},
	} {
		r := cursor.NewReader(bytes.Repeat([]byte{7}, c.size))
		wantBytes(t, r.Bytes(c.n))
		wantReader(t, r, c.size, c.err, c.err)
	}
}

// readNothing makes each call that could read, of which each may be refused by itself, too.
func readNothing(t *testing.T, r *cursor.Reader) {
	t.Helper()
	for _, n := range []int{1, 2, 8, 0, 9, -1, math.MaxInt, math.MinInt} {
		if x := r.Number(n); x != 0 {
			t.Errorf("Number(%d): %d", n, x)
		}
		wantBytes(t, r.Bytes(n))
	}
}

func TestReaderFirstErrorStays(t *testing.T) {
	for _, c := range []struct {
		err  api.Errno
		fail func(r *cursor.Reader)
	}{
		{api.ErrShort, func(r *cursor.Reader) { r.Number(4) }},
		{api.ErrShort, func(r *cursor.Reader) { r.Bytes(4) }},
		{api.ErrArg, func(r *cursor.Reader) { r.Number(0) }},
		{api.ErrArg, func(r *cursor.Reader) { r.Bytes(-1) }},
	} {
		r := cursor.NewReader([]byte{1, 2, 3, 4})
		r.Number(1)
		c.fail(r)
		wantReader(t, r, 3, c.err, c.err)
		readNothing(t, r)
		wantReader(t, r, 3, c.err, c.err)
	}
}

func TestReaderErrorWithNothingLeft(t *testing.T) {
	r := cursor.NewReader([]byte{1})
	r.Bytes(1)
	r.Bytes(1)
	wantReader(t, r, 0, api.ErrShort, api.ErrShort)
}

func TestReaderEndIsNotKept(t *testing.T) {
	r := cursor.NewReader([]byte{8, 9})
	wantReader(t, r, 2, api.OK, api.ErrLeft)
	if x := r.Number(2); x != 0x0908 {
		t.Errorf("Number(2) behind End: %d", x)
	}
	wantReader(t, r, 0, api.OK, api.OK)
}

func TestReaderHasACopy(t *testing.T) {
	b := []byte{1, 2, 3, 4}
	r := cursor.NewReader(b)
	b[0], b[3] = 50, 60
	got := r.Bytes(2)
	wantBytes(t, got, 1, 2)
	got[0] = 70
	wantBytes(t, b, 50, 2, 3, 60)
	wantBytes(t, r.Bytes(2), 3, 4)
}

func TestReaderBytesAreNewMemory(t *testing.T) {
	r := cursor.NewReader([]byte{1, 2, 3, 4, 5})
	first := r.Bytes(2)
	none := r.Bytes(0)
	_ = append(first, 80)
	_ = append(none, 90)
	second := r.Bytes(2)
	wantBytes(t, second, 3, 4)
	_ = append(second, 100)
	second[0] = 110
	wantBytes(t, first, 1, 2)
	if x := r.Number(1); x != 5 {
		t.Errorf("behind what was appended to: %d", x)
	}
}

func TestReadersKeepApart(t *testing.T) {
	b := []byte{1, 2, 3}
	one, other := cursor.NewReader(b), cursor.NewReader(b)
	one.Bytes(9)
	wantReader(t, one, 3, api.ErrShort, api.ErrShort)
	wantReader(t, other, 3, api.OK, api.ErrLeft)
	wantBytes(t, other.Bytes(3), 1, 2, 3)
}

func TestReaderOfNothing(t *testing.T) {
	for _, b := range [][]byte{nil, {}} {
		r := cursor.NewReader(b)
		wantReader(t, r, 0, api.OK, api.OK)
		r.Number(1)
		wantReader(t, r, 0, api.ErrShort, api.ErrShort)
	}
}

func TestNilReader(t *testing.T) {
	var r *cursor.Reader
	wantReader(t, r, 0, api.ErrArg, api.ErrArg)
	readNothing(t, r)
	wantReader(t, r, 0, api.ErrArg, api.ErrArg)
}

// P1.2

func TestWriterNumberOfEachWidth(t *testing.T) {
	b := []byte{0x81, 2, 0x83, 4, 0x85, 6, 0x87, 0xf8}
	for n := 1; n <= 8; n++ {
		w := cursor.NewWriter()
		w.Number(0xf887068504830281, n)
		wantBytes(t, w.Out(), b[:n]...)
	}
	w := cursor.NewWriter()
	w.Number(1, 8)
	wantBytes(t, w.Out(), 1, 0, 0, 0, 0, 0, 0, 0)
}

func TestWriterNumberOfNoSuchWidth(t *testing.T) {
	w := cursor.NewWriter()
	w.Number(5, 1)
	for _, n := range []int{0, -1, 9, 10, 16, math.MinInt, math.MaxInt} {
		w.Number(math.MaxUint64, n)
	}
	wantBytes(t, w.Out(), 5)
	w.Number(6, 1)
	wantBytes(t, w.Out(), 5, 6)
}

func TestWriterAppends(t *testing.T) {
	w := cursor.NewWriter()
	wantBytes(t, w.Out())
	w.Number(513, 2)
	w.Bytes([]byte{9, 8})
	w.Bytes(nil)
	w.Bytes([]byte{})
	w.Number(7, 3)
	w.Bytes([]byte{6})
	wantBytes(t, w.Out(), 1, 2, 9, 8, 7, 0, 0, 6)
}

func TestWriterKeepsNoArgument(t *testing.T) {
	w := cursor.NewWriter()
	b := make([]byte, 2, 8)
	b[0], b[1] = 1, 2
	w.Bytes(b)
	w.Number(3, 1)
	wantBytes(t, b[:3], 1, 2, 0)
	b[0] = 50
	wantBytes(t, w.Out(), 1, 2, 3)
}

func TestWriterOutIsNewMemory(t *testing.T) {
	w := cursor.NewWriter()
	w.Bytes([]byte{1, 2, 3})
	out := w.Out()
	out[0] = 50
	_ = append(out, 60)
	wantBytes(t, w.Out(), 1, 2, 3)
	kept := w.Out()
	w.Number(4, 1)
	_ = append(kept, 70)
	wantBytes(t, kept, 1, 2, 3)
	wantBytes(t, w.Out(), 1, 2, 3, 4)
}

func TestWritersKeepApart(t *testing.T) {
	one, other := cursor.NewWriter(), cursor.NewWriter()
	one.Number(1, 1)
	wantBytes(t, other.Out())
}

func TestNilWriter(t *testing.T) {
	var w *cursor.Writer
	w.Number(1, 1)
	w.Number(1, 9)
	w.Bytes([]byte{1})
	wantBytes(t, w.Out())
}

// P1.3

func TestWrittenIsRead(t *testing.T) {
	values := []uint64{0, 1, 127, 128, 255, 256, 65535, 65536, 1 << 31, 1<<32 - 1, 1 << 32, 1 << 63, math.MaxUint64}
	rows := [][]byte{nil, {0}, {255, 0, 1}, bytes.Repeat([]byte{1, 2, 3}, 30000)}
	w := cursor.NewWriter()
	for n := 1; n <= 8; n++ {
		for i, x := range values {
			w.Number(x, n)
			w.Bytes(rows[i%len(rows)])
		}
	}
	r := cursor.NewReader(w.Out())
	for n := 1; n <= 8; n++ {
		for i, x := range values {
			want := x << (64 - 8*n) >> (64 - 8*n)
			if got := r.Number(n); got != want {
				t.Fatalf("Number(%d): %d, want %d", n, got, want)
			}
			row := rows[i%len(rows)]
			wantBytes(t, r.Bytes(len(row)), row...)
		}
	}
	wantReader(t, r, 0, api.OK, api.OK)
}
