package execute_test

import (
	"bytes"
	"fmt"
	"math"
	"math/rand/v2"
	"slices"
	"testing"

	"lighterman/api"
	"lighterman/execute"
)

const greatest = math.MaxUint32

func ExampleRun() {
	l := []api.Sequence{{Literals: 1, Match: 3, Offset: 4}} // from 1 ahead
	b, r, err := execute.Run([]byte("a"), []byte("b"), l, execute.First(), 100, 100)
	fmt.Println(string(b), r, err == api.OK)
	// Output: abbbb [1 1 4] true
}

func ExampleOffset() {
	x, r, err := execute.Offset(execute.First(), api.Sequence{Literals: 2, Match: 3, Offset: 103})
	fmt.Println(x, r, err == api.OK)
	x, r, err = execute.Offset(r, api.Sequence{Literals: 2, Match: 3, Offset: 2}) // the one ahead of that
	fmt.Println(x, r, err == api.OK)
	// Output:
	// 100 [100 1 4] true
	// 1 [1 100 4] true
}

func ExampleTell() {
	told, r := execute.Tell(execute.Reps{100, 1, 4}, 2, 1)
	fmt.Println(told, r)
	told, r = execute.Tell(r, 2, 7)
	fmt.Println(told, r)
	// Output:
	// 2 [1 100 4]
	// 10 [7 1 100]
}

// Reps are an array of the type that is promised, and nothing else.
var _ = [3]uint32(execute.Reps{})

// found is what Offset tells.
type found struct {
	offset uint32
	r      execute.Reps
	err    api.Errno
}

// offsetOf is what Offset tells.
func offsetOf(r execute.Reps, s api.Sequence) found {
	x, next, err := execute.Offset(r, s)
	return found{x, next, err}
}

// offsetInWords is what P14.1 says of Offset.
func offsetInWords(r execute.Reps, s api.Sequence) found {
	switch {
	case s.Offset == 0:
		return found{err: api.ErrForm}
	case s.Offset > 3:
		return found{offset: s.Offset - 3, r: execute.Reps{s.Offset - 3, r[0], r[1]}}
	}
	k := int(s.Offset) - 1
	if s.Literals == 0 {
		k++
	}
	x := []uint32{r[0], r[1], r[2], r[0] - 1}[k]
	if x == 0 {
		return found{err: api.ErrOffset}
	}
	others := slices.Concat(r[:min(k, 2)], r[min(k, 2)+1:])
	return found{offset: x, r: execute.Reps{x, others[0], others[1]}}
}

// ran is what Run makes.
type ran struct {
	b   []byte
	r   execute.Reps
	err api.Errno
}

func (a ran) is(b ran) bool { return bytes.Equal(a.b, b.b) && a.r == b.r && a.err == b.err }

func (a ran) String() string {
	return fmt.Sprintf("%d bytes %q, offsets %d, error %d", len(a.b), a.b[:min(len(a.b), 60)], a.r, int(a.err))
}

// refusal is an error, and nothing else.
func refusal(err api.Errno) ran { return ran{err: err} }

// work is what Run is handed.
type work struct {
	out, literals string
	l             []api.Sequence
	r             execute.Reps
	window        uint64
	most          int
}

func (w work) String() string {
	return fmt.Sprintf("Run(%.40q, %.40q, %d of %v, %d, %d, %d)", w.out, w.literals, len(w.l), w.l[:min(len(w.l), 8)], w.r, w.window, w.most)
}

// inWords is what P14.3 says of Run.
func (w work) inWords() ran {
	all, left, r := []byte(w.out), w.literals, w.r
	made := uint64(0)
	tooMany := func(n uint64) bool { return w.most < 0 || made+n > uint64(w.most) }
	for _, s := range w.l {
		literals, match := uint64(s.Literals), uint64(s.Match)
		if literals > uint64(len(left)) {
			return refusal(api.ErrForm)
		}
		at := offsetInWords(r, s)
		if at.err != api.OK {
			return refusal(at.err)
		}
		if uint64(at.offset) > uint64(len(all))+literals || uint64(at.offset) > w.window {
			return refusal(api.ErrOffset)
		}
		if tooMany(literals + match) {
			return refusal(api.ErrBig)
		}
		all = append(all, left[:literals]...)
		left = left[literals:]
		for range match {
			all = append(all, all[len(all)-int(at.offset)])
		}
		made += literals + match
		r = at.r
	}
	if tooMany(uint64(len(left))) {
		return refusal(api.ErrBig)
	}
	return ran{b: append(all, left...), r: r}
}

// roomy is a copy with room behind it, and all of that memory.
func roomy(text string) ([]byte, []byte) {
	memory := append([]byte(text), bytes.Repeat([]byte{0xEE}, 300)...)
	return memory[:len(text)], memory
}

// wantRun fails, unless Run makes this, of lists that it leaves as they are, in memory of its own, and once more.
func wantRun(t *testing.T, w work, want ran) {
	t.Helper()
	out, outMemory := roomy(w.out)
	literals, literalsMemory := roomy(w.literals)
	l := slices.Clone(w.l)
	lists := func() [][]byte { return [][]byte{bytes.Clone(outMemory), bytes.Clone(literalsMemory)} }
	ahead := lists()
	changed := func() bool { return !slices.EqualFunc(lists(), ahead, bytes.Equal) || !slices.Equal(l, w.l) }
	run := func() ran {
		b, r, err := execute.Run(out, literals, l, w.r, w.window, w.most)
		return ran{b, r, err}
	}

	got := run()
	if !got.is(want) {
		t.Errorf("%v: %v; want %v", w, got, want)
	}
	if inWords := w.inWords(); !inWords.is(want) {
		t.Errorf("%v: in words %v; want %v", w, inWords, want)
	}
	if changed() {
		t.Errorf("%v: what was handed in, or what stands behind it, was changed", w)
	}
	again := run()
	if !again.is(got) {
		t.Errorf("%v, once more: %v; at first %v", w, again, got)
	}
	clear(again.b[:cap(again.b)])
	if changed() || !got.is(want) {
		t.Errorf("%v: the answer shares memory", w)
	}
	clear(outMemory)
	clear(literalsMemory)
	if !got.is(want) {
		t.Errorf("%v: the answer changes with what was handed in", w)
	}
}

// wantAsInWords fails, unless Run makes what the promise says; it is that.
func wantAsInWords(t *testing.T, w work) ran {
	t.Helper()
	want := w.inWords()
	wantRun(t, w, want)
	return want
}

// wide is work with offsets that are the first ones, and no bounds that matter.
func wide(out, literals string, l ...api.Sequence) work {
	return work{out, literals, l, execute.First(), 1 << 20, 1 << 20}
}

// from is a sequence that copies from just so far ahead.
func from(literals, match, offset uint32) api.Sequence {
	return api.Sequence{Literals: literals, Match: match, Offset: offset + 3}
}

// P14.1

func TestFirst(t *testing.T) {
	for range 3 {
		r := execute.First()
		if r != (execute.Reps{1, 4, 8}) {
			t.Errorf("First: %d", r)
		}
		r[0], r[1], r[2] = 7, 7, 7
	}
}

func TestOffset(t *testing.T) {
	r := execute.Reps{10, 20, 30}
	for _, c := range []struct {
		literals, told uint32
		want           found
	}{
		{0, 0, found{err: api.ErrForm}},
		{1, 0, found{err: api.ErrForm}},
		{2, 0, found{err: api.ErrForm}},
		{greatest, 0, found{err: api.ErrForm}},

		{1, 1, found{offset: 10, r: execute.Reps{10, 20, 30}}},
		{1, 2, found{offset: 20, r: execute.Reps{20, 10, 30}}},
		{1, 3, found{offset: 30, r: execute.Reps{30, 10, 20}}},
		{2, 1, found{offset: 10, r: execute.Reps{10, 20, 30}}},
		{2, 2, found{offset: 20, r: execute.Reps{20, 10, 30}}},
		{2, 3, found{offset: 30, r: execute.Reps{30, 10, 20}}},
		{greatest, 1, found{offset: 10, r: execute.Reps{10, 20, 30}}},
		{greatest, 2, found{offset: 20, r: execute.Reps{20, 10, 30}}},
		{greatest, 3, found{offset: 30, r: execute.Reps{30, 10, 20}}},

		{0, 1, found{offset: 20, r: execute.Reps{20, 10, 30}}},
		{0, 2, found{offset: 30, r: execute.Reps{30, 10, 20}}},
		{0, 3, found{offset: 9, r: execute.Reps{9, 10, 20}}},

		{0, 4, found{offset: 1, r: execute.Reps{1, 10, 20}}},
		{1, 4, found{offset: 1, r: execute.Reps{1, 10, 20}}},
		{9, 4, found{offset: 1, r: execute.Reps{1, 10, 20}}},
		{0, 5, found{offset: 2, r: execute.Reps{2, 10, 20}}},
		{1, 5, found{offset: 2, r: execute.Reps{2, 10, 20}}},
		{9, 5, found{offset: 2, r: execute.Reps{2, 10, 20}}},
		{0, 13, found{offset: 10, r: execute.Reps{10, 10, 20}}}, // told anew, it is repeated none the less
		{1, 33, found{offset: 30, r: execute.Reps{30, 10, 20}}},
		{0, greatest, found{offset: greatest - 3, r: execute.Reps{greatest - 3, 10, 20}}},
		{1, greatest, found{offset: greatest - 3, r: execute.Reps{greatest - 3, 10, 20}}},
		{9, greatest, found{offset: greatest - 3, r: execute.Reps{greatest - 3, 10, 20}}},
		{greatest, greatest, found{offset: greatest - 3, r: execute.Reps{greatest - 3, 10, 20}}},
	} {
		for _, match := range []uint32{0, 3, greatest} { // which says nothing here
			s := api.Sequence{Literals: c.literals, Match: match, Offset: c.told}
			if got := offsetOf(r, s); got != c.want {
				t.Errorf("Offset(%d, %v): %v; want %v", r, s, got, c.want)
			}
			if inWords := offsetInWords(r, s); inWords != c.want {
				t.Errorf("Offset(%d, %v) in words: %v; want %v", r, s, inWords, c.want)
			}
		}
	}
}

// The first less 1 is what 3 tells where there are no literals: nowhere else.
func TestOffsetOfTheFirstLess1(t *testing.T) {
	for _, c := range []struct {
		r    execute.Reps
		want found
	}{
		{execute.Reps{1, 4, 8}, found{err: api.ErrOffset}},
		{execute.Reps{1, 1, 1}, found{err: api.ErrOffset}},
		{execute.Reps{1, 0, 0}, found{err: api.ErrOffset}},
		{execute.Reps{2, 4, 8}, found{offset: 1, r: execute.Reps{1, 2, 4}}},
		{execute.Reps{5, 4, 4}, found{offset: 4, r: execute.Reps{4, 5, 4}}},
		{execute.Reps{0, 4, 8}, found{offset: greatest, r: execute.Reps{greatest, 0, 4}}},
		{execute.Reps{}, found{offset: greatest, r: execute.Reps{greatest, 0, 0}}},
		{execute.Reps{greatest, 4, 8}, found{offset: greatest - 1, r: execute.Reps{greatest - 1, greatest, 4}}},
		{execute.Reps{1 << 31, 4, 8}, found{offset: 1<<31 - 1, r: execute.Reps{1<<31 - 1, 1 << 31, 4}}},
	} {
		if got := offsetOf(c.r, api.Sequence{Match: 3, Offset: 3}); got != c.want {
			t.Errorf("Offset(%d, 3 of no literals): %v; want %v", c.r, got, c.want)
		}
		for _, literals := range []uint32{1, 2, greatest} {
			want := found{offset: c.r[2], r: execute.Reps{c.r[2], c.r[0], c.r[1]}}
			if c.r[2] == 0 {
				want = found{err: api.ErrOffset}
			}
			if got := offsetOf(c.r, api.Sequence{Literals: literals, Match: 3, Offset: 3}); got != want {
				t.Errorf("Offset(%d, 3 of %d literals): %v; want %v", c.r, literals, got, want)
			}
		}
	}
}

// An offset of 0 is none, wherever it comes from.
func TestOffsetIsNever0(t *testing.T) {
	for told := uint32(1); told <= 3; told++ {
		for literals := range uint32(3) {
			k := int(told) - 1
			if literals == 0 {
				k++
			}
			if k > 2 {
				continue
			}
			r := execute.Reps{5, 6, 7}
			r[k] = 0
			s := api.Sequence{Literals: literals, Match: 3, Offset: told}
			if got := offsetOf(r, s); got != (found{err: api.ErrOffset}) {
				t.Errorf("Offset(%d, %v): %v", r, s, got)
			}
		}
	}
}

// edges are numbers of 32 bits that matter.
func edges() []uint32 {
	return []uint32{0, 1, 2, 3, 4, 5, 6, 7, 8, 255, 256, 65536, 1<<31 - 1, 1 << 31, greatest - 4, greatest - 3, greatest - 2, greatest - 1, greatest}
}

// someReps are offsets that are alike, and such that are not.
func someReps() []execute.Reps {
	var all []execute.Reps
	few := []uint32{0, 1, 2, 3, 4, 8, greatest - 3, greatest}
	for _, first := range few {
		for _, second := range few {
			for _, third := range few {
				all = append(all, execute.Reps{first, second, third})
			}
		}
	}
	return all
}

func TestOffsetAsInWords(t *testing.T) {
	for _, r := range someReps() {
		for _, told := range edges() {
			for _, literals := range []uint32{0, 1, 2, 1 << 31, greatest} {
				s := api.Sequence{Literals: literals, Match: 3, Offset: told}
				got, want := offsetOf(r, s), offsetInWords(r, s)
				if got != want {
					t.Errorf("Offset(%d, %v): %v; want %v", r, s, got, want)
				}
				if got.err != api.OK && (got.offset != 0 || got.r != execute.Reps{}) {
					t.Errorf("Offset(%d, %v): more beside an error: %v", r, s, got)
				}
			}
		}
	}
}

func TestOffsetOfChance(t *testing.T) {
	c := rand.New(rand.NewPCG(14, 1))
	for range 100_000 {
		r := execute.Reps{c.Uint32() >> c.IntN(32), c.Uint32() >> c.IntN(32), c.Uint32() >> c.IntN(32)}
		s := api.Sequence{Literals: c.Uint32N(3), Match: c.Uint32(), Offset: c.Uint32() >> c.IntN(32)}
		if got, want := offsetOf(r, s), offsetInWords(r, s); got != want {
			t.Errorf("Offset(%d, %v): %v; want %v", r, s, got, want)
		}
	}
}

// P14.2

// wantTold fails, unless Tell tells an offset; it is how.
func wantTold(t *testing.T, r execute.Reps, literals, offset uint32) uint32 {
	t.Helper()
	told, next := execute.Tell(r, literals, offset)
	s := api.Sequence{Literals: literals, Match: 3, Offset: told}
	want := found{offset: offset, r: next}
	if inWords := offsetInWords(r, s); inWords != want {
		t.Errorf("Tell(%d, %d, %d): %d, %d; in words that is %v", r, literals, offset, told, next, inWords)
	}
	if got := offsetOf(r, s); got != want {
		t.Errorf("Tell(%d, %d, %d): %d, %d; Offset of that is %v", r, literals, offset, told, next, got)
	}
	return told
}

func TestTell(t *testing.T) {
	for _, c := range []struct {
		r                execute.Reps
		literals, offset uint32
		want             uint32
	}{
		{execute.Reps{10, 20, 30}, 1, 10, 1},
		{execute.Reps{10, 20, 30}, 1, 20, 2},
		{execute.Reps{10, 20, 30}, 1, 30, 3},
		{execute.Reps{10, 20, 30}, 1, 9, 12},
		{execute.Reps{10, 20, 30}, 1, 7, 10},
		{execute.Reps{10, 20, 30}, greatest, 30, 3},
		{execute.Reps{10, 20, 30}, 0, 10, 13}, // no literals: the first one isn't repeated
		{execute.Reps{10, 20, 30}, 0, 20, 1},
		{execute.Reps{10, 20, 30}, 0, 30, 2},
		{execute.Reps{10, 20, 30}, 0, 9, 3},
		{execute.Reps{10, 20, 30}, 0, 7, 10},
		{execute.Reps{10, 10, 10}, 1, 10, 1},
		{execute.Reps{10, 10, 10}, 0, 10, 1},
		{execute.Reps{10, 9, 9}, 0, 9, 1},
		{execute.Reps{10, 20, 9}, 0, 9, 2},
		{execute.Reps{1, 4, 8}, 0, 1, 4},
		{execute.Reps{10, 20, 30}, 0, greatest - 3, greatest},
		{execute.Reps{10, 20, 30}, 1, greatest - 3, greatest},
		{execute.Reps{greatest - 3, 20, 30}, 1, greatest - 3, 1},
		{execute.Reps{greatest - 2, 20, 30}, 0, greatest - 3, 3},
	} {
		if told := wantTold(t, c.r, c.literals, c.offset); told != c.want {
			t.Errorf("Tell(%d, %d, %d): %d; %d is shorter, or as short", c.r, c.literals, c.offset, told, c.want)
		}
	}
}

// What no Offset tells is told by none, 0, which Offset refuses.
func TestTellOfNoOffset(t *testing.T) {
	for _, r := range []execute.Reps{{}, {1, 4, 8}, {10, 20, 30}, {greatest - 3, 3, greatest - 4}} {
		for _, offset := range []uint32{0, greatest - 2, greatest - 1, greatest} {
			for _, literals := range []uint32{1, 2, greatest} {
				if told, next := execute.Tell(r, literals, offset); told != 0 || next != (execute.Reps{}) {
					t.Errorf("Tell(%d, %d, %d): %d, %d", r, literals, offset, told, next)
				}
			}
		}
	}
}

func TestTellAsInWords(t *testing.T) {
	for _, r := range someReps() {
		offsets := append(edges(), r[0], r[1], r[2], r[0]-1, r[0]+1, r[1]-1, r[2]-1, 1000)
		for _, offset := range offsets {
			for _, literals := range []uint32{0, 1, 2, 1 << 31, greatest} {
				if offset >= 1 && offset <= greatest-3 {
					wantTold(t, r, literals, offset)
				} else {
					execute.Tell(r, literals, offset) // some answer
				}
			}
		}
	}
}

func TestTellOfChance(t *testing.T) {
	c := rand.New(rand.NewPCG(14, 2))
	for range 100_000 {
		r := execute.Reps{c.Uint32() >> c.IntN(32), c.Uint32() >> c.IntN(32), c.Uint32() >> c.IntN(32)}
		offset := 1 + c.Uint32N(greatest-3)>>c.IntN(32)
		if c.IntN(3) == 0 {
			offset = min(max(r[c.IntN(3)]-c.Uint32N(2), 1), greatest-3)
		}
		wantTold(t, r, c.Uint32N(3), offset)
	}
}

// P14.3

func TestRunOfNoSequences(t *testing.T) {
	for _, out := range []string{"", "a", "abc"} {
		for _, literals := range []string{"", "x", "xyz"} {
			for _, r := range []execute.Reps{{}, {1, 4, 8}, {9, 0, greatest}} {
				for _, window := range []uint64{0, 1, math.MaxUint64} {
					for _, most := range []int{len(literals), len(literals) + 1, math.MaxInt} {
						wantRun(t, work{out, literals, nil, r, window, most}, ran{b: []byte(out + literals), r: r})
					}
					for _, most := range []int{len(literals) - 1, -1, -2, math.MinInt} {
						wantRun(t, work{out, literals, nil, r, window, most}, refusal(api.ErrBig))
					}
				}
			}
		}
	}
	if b, r, err := execute.Run(nil, nil, []api.Sequence{}, execute.First(), 0, 0); len(b) > 0 || r != execute.First() || err != api.OK {
		t.Errorf("Run of nothing: %d, %d, %d", b, r, int(err))
	}
}

func TestRun(t *testing.T) {
	for _, c := range []struct {
		w    work
		want string
		r    execute.Reps
	}{
		{wide("a", "b", api.Sequence{Literals: 1, Match: 3, Offset: 4}), "abbbb", execute.Reps{1, 1, 4}},
		{wide("a", "bz", api.Sequence{Literals: 1, Match: 3, Offset: 4}), "abbbbz", execute.Reps{1, 1, 4}},
		{wide("", "abcd", from(4, 4, 4)), "abcdabcd", execute.Reps{4, 1, 4}},
		{wide("", "abcdef", from(4, 2, 4)), "abcdabef", execute.Reps{4, 1, 4}},
		{wide("abcd", "", from(0, 3, 4)), "abcdabc", execute.Reps{4, 1, 4}},
		{wide("abcd", "", from(0, 3, 3)), "abcdbcd", execute.Reps{3, 1, 4}},
		{wide("abcd", "xy", from(1, 3, 5)), "abcdxabcy", execute.Reps{5, 1, 4}},
		// Again and again: the offsets go on from sequence to sequence.
		{wide("", "abcde", from(3, 3, 3), api.Sequence{Literals: 1, Match: 3, Offset: 1}), "abcabcdbcde", execute.Reps{3, 1, 4}},
		{wide("", "abcde", from(3, 3, 3), api.Sequence{Literals: 1, Match: 3, Offset: 2}), "abcabcdddde", execute.Reps{1, 3, 4}},
		{wide("", "abcde", from(3, 3, 3), api.Sequence{Literals: 1, Match: 3, Offset: 3}), "abcabcdabce", execute.Reps{4, 3, 1}},
		{wide("", "abcde", from(3, 3, 3), api.Sequence{Match: 3, Offset: 1}), "abcabccccde", execute.Reps{1, 3, 4}},
		{wide("", "abcde", from(3, 3, 3), api.Sequence{Match: 3, Offset: 2}), "abcabccabde", execute.Reps{4, 3, 1}},
		{wide("", "abcde", from(3, 3, 3), api.Sequence{Match: 3, Offset: 3}), "abcabcbcbde", execute.Reps{2, 3, 1}},
		{wide("", "abcde", from(3, 0, 3), from(2, 1, 5), from(0, 2, 2)), "abcdeaea", execute.Reps{2, 5, 3}},
	} {
		wantRun(t, c.w, ran{b: []byte(c.want), r: c.r})
	}
}

func TestRunOfLiteralsThatAreLeft(t *testing.T) {
	for _, c := range []struct {
		literals uint32
		l        []api.Sequence
		want     ran
	}{
		{literals: 2, want: ran{b: []byte("oxyxzw"), r: execute.Reps{2, 1, 4}}},
		{literals: 3, want: ran{b: []byte("oxyzyw"), r: execute.Reps{2, 1, 4}}},
		{literals: 4, want: ran{b: []byte("oxyzwz"), r: execute.Reps{2, 1, 4}}},
		{literals: 5, want: refusal(api.ErrForm)},
		{literals: 6, want: refusal(api.ErrForm)},
		{literals: 1 << 31, want: refusal(api.ErrForm)},
		{literals: greatest, want: refusal(api.ErrForm)},
	} {
		wantRun(t, wide("o", "xyzw", from(c.literals, 1, 2)), c.want)
	}
	// What the sequences ahead took isn't there any more.
	wantRun(t, wide("o", "xyzw", from(3, 1, 1), from(1, 1, 1)), ran{b: []byte("oxyzzww"), r: execute.Reps{1, 1, 1}})
	for _, literals := range []uint32{2, 3, 4, greatest - 2, greatest} {
		wantRun(t, wide("o", "xyzw", from(3, 1, 1), from(literals, 1, 1)), refusal(api.ErrForm))
	}
	wantRun(t, wide("o", "", from(1, 1, 1)), refusal(api.ErrForm))
	wantRun(t, wide("o", "xyzw", from(4, 1, 1), from(0, 1, 1), from(1, 1, 1)), refusal(api.ErrForm))
}

func TestRunRefusesOffsets(t *testing.T) {
	fine := from(1, 3, 1)
	for _, c := range []struct {
		s    api.Sequence
		r    execute.Reps // as they are at that sequence
		want api.Errno
	}{
		{api.Sequence{Literals: 1, Match: 3, Offset: 0}, execute.Reps{1, 1, 4}, api.ErrForm},
		{api.Sequence{Match: 3, Offset: 0}, execute.Reps{1, 1, 4}, api.ErrForm},
		{api.Sequence{Match: 3, Offset: 3}, execute.Reps{1, 1, 4}, api.ErrOffset},
		{api.Sequence{Literals: 1, Match: 3, Offset: 3}, execute.Reps{1, 1, 0}, api.ErrOffset},
	} {
		wantRun(t, work{"abc", "xyz", []api.Sequence{c.s}, c.r, 100, 100}, refusal(c.want))
		wantRun(t, work{"abc", "xyz", []api.Sequence{c.s, fine}, c.r, 100, 100}, refusal(c.want))
		// Ahead of it is one that leaves the offsets so.
		ahead := execute.Reps{c.r[1], c.r[2], 9}
		wantRun(t, work{"abc", "xyz", []api.Sequence{fine, c.s}, ahead, 100, 100}, refusal(c.want))
		wantRun(t, work{"abc", "xyz", []api.Sequence{fine, c.s, fine}, ahead, 100, 100}, refusal(c.want))
	}
	wantRun(t, work{"abc", "xyz", []api.Sequence{{Literals: 1, Match: 3, Offset: 1}}, execute.Reps{}, 100, 100}, refusal(api.ErrOffset))
}

// Bytes to copy may lie in out, in the sequence's own literals, and in what was copied.
func TestRunOfAllBytesThatThereAre(t *testing.T) {
	for _, c := range []struct {
		w    work // the last sequence is from just as many bytes ahead as there are
		want string
	}{
		{wide("abc", "", from(0, 2, 3)), "abcab"},
		{wide("", "abc", from(3, 2, 3)), "abcab"},
		{wide("", "abc", from(1, 2, 1)), "aaabc"},
		{wide("ab", "cd", from(1, 4, 3)), "abcabcad"},
		{wide("a", "", from(0, 4, 1), from(0, 2, 5)), "aaaaaaa"},
		{wide("a", "b", from(0, 4, 1), from(1, 7, 6)), "aaaaabaaaaaba"},
		{wide("ab", "cd", from(1, 2, 2), from(1, 6, 6)), "abcbcdabcbcd"},
		{wide("", "abc", from(2, 2, 2), from(1, 5, 5)), "ababcababc"},
	} {
		got := wantAsInWords(t, c.w)
		if string(got.b) != c.want {
			t.Errorf("%v: %v; want %q", c.w, got, c.want)
		}
		last := &c.w.l[len(c.w.l)-1]
		last.Offset++
		wantRun(t, c.w, refusal(api.ErrOffset))
		last.Match = 0 // even if nothing is copied
		wantRun(t, c.w, refusal(api.ErrOffset))
		last.Offset = greatest
		wantRun(t, c.w, refusal(api.ErrOffset))
	}
	wantRun(t, wide("", "", from(0, 3, 1)), refusal(api.ErrOffset))
	wantRun(t, wide("", "abc", from(0, 3, 1)), refusal(api.ErrOffset)) // literals that are not its own come later
	wantRun(t, wide("", "", api.Sequence{Match: 3, Offset: 4}), refusal(api.ErrOffset))
}

func TestRunOfWindows(t *testing.T) {
	out := "abcdefghij"
	for offset := range uint32(10) {
		offset++
		l := []api.Sequence{from(0, 2, offset)}
		at := len(out) - int(offset)
		want := ran{b: []byte(out + (out + out[9:])[at:at+2]), r: execute.Reps{offset, 1, 4}}
		if offset == 1 {
			want.b = []byte(out + "jj")
		}
		for _, window := range []uint64{uint64(offset), uint64(offset) + 1, 1<<32 - 1, 1 << 32, 1 << 32 << 20, math.MaxInt64, 1 << 63, math.MaxUint64} {
			wantRun(t, work{out, "", l, execute.First(), window, 100}, want)
		}
		for window := range uint64(offset) {
			wantRun(t, work{out, "", l, execute.First(), window, 100}, refusal(api.ErrOffset))
		}
	}
	// Windows of more than 32 bits aren't cut to those; offsets are held against the bytes there are, too.
	wantRun(t, work{out, "", []api.Sequence{from(0, 2, 11)}, execute.First(), 1<<32 + 5, 100}, refusal(api.ErrOffset))
	wantRun(t, work{out, "", []api.Sequence{from(0, 2, 10)}, execute.First(), 1<<32 + 5, 100}, ran{b: []byte(out + "ab"), r: execute.Reps{10, 1, 4}})
	wantRun(t, work{out, "", []api.Sequence{from(0, 2, greatest-3)}, execute.First(), math.MaxUint64, 100}, refusal(api.ErrOffset))
	// At a later sequence, by an offset that is repeated, and with literals.
	later := []api.Sequence{from(0, 2, 4), {Literals: 1, Match: 2, Offset: 1}}
	wantRun(t, work{out, "x", later, execute.First(), 4, 100}, ran{b: []byte(out + "ghxjg"), r: execute.Reps{4, 1, 4}})
	wantRun(t, work{out, "x", []api.Sequence{later[0], from(1, 2, 5)}, execute.First(), 4, 100}, refusal(api.ErrOffset))
	wantRun(t, work{out, "x", []api.Sequence{{Literals: 1, Match: 0, Offset: 1}}, execute.Reps{5, 6, 7}, 4, 100}, refusal(api.ErrOffset))
}

func TestRunOfMost(t *testing.T) {
	for _, c := range []struct {
		w    work
		made int // bytes behind out
	}{
		{wide("abc", "xyz", from(3, 0, 1)), 3},                                   // by the literals
		{wide("abc", "", from(0, 7, 2)), 7},                                      // by Match
		{wide("abc", "xyz", from(3, 7, 2)), 10},                                  // by both
		{wide("abc", "xyz", from(0, 0, 2)), 3},                                   // by those that are left
		{wide("abc", "xyz", from(2, 5, 2)), 8},                                   // by all
		{wide("", "xyz", from(1, 5, 1), from(1, 9, 2)), 17},                      // of two
		{wide("", "xyz", from(1, 5, 1), from(2, 0, 2)), 8},                       // by the second one's literals
		{wide("", "x", from(1, 5, 1), from(0, 1, 2)), 7},                         // by the second one's Match
		{wide("abc", "x", from(0, 0, 1), from(1, 0, 1), from(0, 1, 1)), 2},       // by the third one
		{wide("abc", "", from(0, 70_000, 1), from(0, 1<<17, 1)), 70_000 + 1<<17}, // of many
	} {
		for _, more := range []int{0, 1, 1 << 40} {
			w := c.w
			w.most = c.made + more
			if got := wantAsInWords(t, w); got.err != api.OK || len(got.b) != len(w.out)+c.made {
				t.Errorf("%v: %v; want %d bytes", w, got, len(w.out)+c.made)
			}
		}
		for _, most := range []int{c.made - 1, c.made / 2, 1, 0, -1, math.MinInt} {
			w := c.w
			w.most = most
			wantRun(t, w, refusal(api.ErrBig))
		}
	}
	// Those of out don't count, and nothing at all is as much as 0, but more than any number below.
	nothing := wide("abc", "", from(0, 0, 1), from(0, 0, 2))
	for most, want := range map[int]ran{
		1:           {b: []byte("abc"), r: execute.Reps{2, 1, 1}},
		0:           {b: []byte("abc"), r: execute.Reps{2, 1, 1}},
		-1:          refusal(api.ErrBig),
		math.MinInt: refusal(api.ErrBig),
	} {
		nothing.most = most
		wantRun(t, nothing, want)
	}
	// Numbers of 32 bits together go over none.
	for _, match := range []uint32{1 << 31, greatest - 1, greatest} {
		for _, literals := range []uint32{0, 1, 2} {
			for _, most := range []int{100, 0, -1, int(match) + int(literals) - 1} {
				wantRun(t, work{"abc", "xy", []api.Sequence{from(literals, match, 2)}, execute.First(), 9, most}, refusal(api.ErrBig))
			}
		}
	}
}

// A sequence may copy nothing; its offset is held against the bounds, and stands first from then on.
func TestRunOfAMatchOf0(t *testing.T) {
	wantRun(t, wide("abc", "xyz", from(2, 0, 5)), ran{b: []byte("abcxyz"), r: execute.Reps{5, 1, 4}})
	wantRun(t, wide("abc", "xyz", from(2, 0, 6)), refusal(api.ErrOffset))
	wantRun(t, wide("abc", "xyz", from(0, 0, 3), api.Sequence{Literals: 1, Match: 2, Offset: 1}), ran{b: []byte("abcxbcyz"), r: execute.Reps{3, 1, 4}})
	wantRun(t, wide("abc", "xyz", api.Sequence{Offset: 0}), refusal(api.ErrForm))
	wantRun(t, wide("abc", "xyz", api.Sequence{Offset: 3}), refusal(api.ErrOffset))
	wantRun(t, wide("abcd", "xyz", api.Sequence{Offset: 1}), ran{b: []byte("abcdxyz"), r: execute.Reps{4, 1, 8}})
}

// faulty are sequences that are refused, in the order in which their errors are named; most 9, window 6, 7 bytes ahead, 3 literals.
func faulty() []api.Sequence {
	return []api.Sequence{
		{Literals: 4, Match: 3, Offset: 4},     // more literals than are left
		{Literals: 1, Match: 3, Offset: 0},     // no offset
		{Literals: 0, Match: 3, Offset: 3},     // an offset of 0
		{Literals: 1, Match: 3, Offset: 9 + 3}, // from ahead of all
		{Literals: 1, Match: 3, Offset: 7 + 3}, // from ahead of the window
		{Literals: 1, Match: 9, Offset: 4},     // too many
	}
}

func TestRunRefusesTheFirstFault(t *testing.T) {
	errs := []api.Errno{api.ErrForm, api.ErrForm, api.ErrOffset, api.ErrOffset, api.ErrOffset, api.ErrBig}
	for i, s := range faulty() {
		for _, most := range []int{9, 0} { // of 0 all are too many, and that is told last
			wantRun(t, work{"abcdefg", "xyz", []api.Sequence{s}, execute.First(), 6, most}, refusal(errs[i]))
		}
	}
	// Of two sequences the first one's fault is told, whatever the second one's is.
	for i, s := range faulty() {
		for _, behind := range faulty() {
			wantRun(t, work{"abcdefg", "xyz", []api.Sequence{s, behind}, execute.First(), 6, 9}, refusal(errs[i]))
		}
	}
	for _, c := range []struct {
		s    api.Sequence
		want api.Errno
	}{
		{api.Sequence{Literals: 4, Match: greatest, Offset: 3}, api.ErrForm}, // Reps' third one, 0, is told later
		{api.Sequence{Literals: 4, Match: greatest, Offset: greatest}, api.ErrForm},
		{api.Sequence{Literals: 4, Match: greatest, Offset: 0}, api.ErrForm},
		{api.Sequence{Literals: 3, Match: greatest, Offset: 0}, api.ErrForm},
		{api.Sequence{Literals: 3, Match: greatest, Offset: 3}, api.ErrOffset},
		{api.Sequence{Literals: 3, Match: greatest, Offset: greatest}, api.ErrOffset},
		{api.Sequence{Literals: 3, Match: greatest, Offset: 6 + 3}, api.ErrBig},
	} {
		wantRun(t, work{"abcdefg", "xyz", []api.Sequence{c.s}, execute.Reps{1, 4, 0}, 6, 9}, refusal(c.want))
	}
	// Those that are left are counted when all sequences are done.
	wantRun(t, work{"abc", "xyz", []api.Sequence{from(1, 1, 1), {}}, execute.First(), 6, 2}, refusal(api.ErrForm))
	wantRun(t, work{"abc", "xyz", []api.Sequence{from(1, 1, 1), from(0, 0, 7)}, execute.First(), 7, 2}, refusal(api.ErrOffset))
	wantRun(t, work{"abc", "xyz", []api.Sequence{from(1, 1, 1)}, execute.First(), 6, 2}, refusal(api.ErrBig))
}

// Lists that share memory with each other are only read.
func TestRunOfSharedLists(t *testing.T) {
	one := []byte("abcdefgh")
	b, _, err := execute.Run(one[:4], one[2:6], []api.Sequence{from(1, 3, 4), from(2, 2, 1)}, execute.First(), 9, 99)
	if string(b) != "abcdcbcddeeef" || err != api.OK || string(one) != "abcdefgh" {
		t.Errorf("%q, error %d; the list is %q", b, int(err), one)
	}
	clear(b)
	if string(one) != "abcdefgh" {
		t.Errorf("the answer shares memory: %q", one)
	}
}

// workOfChance is work that is often done, and sometimes refused.
func workOfChance(c *rand.Rand) work {
	text := func(n int) string {
		b := make([]byte, c.IntN(n))
		for i := range b {
			b[i] = byte('a' + c.IntN(26))
		}
		return string(b)
	}
	w := work{out: text(20), literals: text(40), r: execute.First(), window: 1000, most: 1000}
	for range c.IntN(12) {
		w.l = append(w.l, api.Sequence{Literals: c.Uint32N(8), Match: c.Uint32N(12), Offset: 1 + c.Uint32N(3+uint32(len(w.out)+3*len(w.l)))})
	}
	if c.IntN(3) == 0 {
		w.r = execute.Reps{c.Uint32N(9), c.Uint32N(9), c.Uint32N(9)}
	}
	if c.IntN(3) == 0 {
		w.window = c.Uint64N(40)
	}
	if c.IntN(3) == 0 {
		w.most = c.IntN(80) - 2
	}
	if c.IntN(9) == 0 && len(w.l) > 0 {
		w.l[c.IntN(len(w.l))].Offset = 0
	}
	return w
}

func TestRunOfChance(t *testing.T) {
	c := rand.New(rand.NewPCG(14, 3))
	often := map[api.Errno]int{}
	for range 40_000 {
		often[wantAsInWords(t, workOfChance(c)).err]++
	}
	for _, err := range []api.Errno{api.OK, api.ErrForm, api.ErrOffset, api.ErrBig} {
		if often[err] < 1000 {
			t.Errorf("of works of chance only %d were of error %d", often[err], int(err))
		}
	}
}

// What is told by Tell is done by Run: copies from anywhere make the bytes that stood there.
func TestRunOfWhatTellTells(t *testing.T) {
	c := rand.New(rand.NewPCG(14, 4))
	for range 2000 {
		r := execute.First()
		next := r
		var want, literals []byte
		var l []api.Sequence
		for range 1 + c.IntN(30) {
			n := c.IntN(4)
			if len(want) == 0 {
				n++
			}
			for range n {
				literals = append(literals, byte(c.IntN(256)))
				want = append(want, literals[len(literals)-1])
			}
			offset := 1 + c.IntN(len(want))
			if again := int(next[c.IntN(3)]); c.IntN(2) == 0 && again <= len(want) {
				offset = again
			}
			match := c.IntN(20)
			for range match {
				want = append(want, want[len(want)-offset])
			}
			s := api.Sequence{Literals: uint32(n), Match: uint32(match)}
			s.Offset, next = execute.Tell(next, s.Literals, uint32(offset))
			l = append(l, s)
		}
		wantRun(t, work{"", string(literals), l, r, uint64(len(want)), len(want)}, ran{b: want, r: next})
	}
}

// What is done in two runs, with the offsets of the first one handed on, is done in one.
func TestRunGoesOn(t *testing.T) {
	c := rand.New(rand.NewPCG(14, 5))
	done := 0
	for range 5000 {
		w := workOfChance(c)
		w.most = 1000
		whole := w.inWords()
		if whole.err != api.OK {
			continue
		}
		done++
		cut := c.IntN(len(w.l) + 1)
		taken := 0
		for _, s := range w.l[:cut] {
			taken += int(s.Literals)
		}
		first := wantAsInWords(t, work{w.out, w.literals[:taken], w.l[:cut], w.r, w.window, w.most})
		wantRun(t, work{string(first.b), w.literals[taken:], w.l[cut:], first.r, w.window, w.most}, whole)
	}
	if done < 500 {
		t.Errorf("of works of chance only %d were done", done)
	}
}

// P14.4

func TestCopiesReachIntoThemselves(t *testing.T) {
	for _, c := range []struct {
		match, offset uint32
		want          string
	}{
		{0, 1, "abcd"},
		{1, 1, "abcdd"},
		{2, 1, "abcddd"},
		{7, 1, "abcdddddddd"},
		{2, 2, "abcdcd"},
		{3, 2, "abcdcdc"},
		{7, 2, "abcdcdcdcdc"},
		{3, 3, "abcdbcd"},
		{4, 3, "abcdbcdb"},
		{8, 3, "abcdbcdbcdbc"},
		{3, 4, "abcdabc"},
		{4, 4, "abcdabcd"},
		{5, 4, "abcdabcda"},
		{9, 4, "abcdabcdabcda"},
	} {
		want := ran{b: []byte(c.want), r: execute.Reps{c.offset, 1, 4}}
		for literals := range len("abcd") + 1 {
			wantAsInWords(t, wide("abcd"[literals:], "", from(0, c.match, c.offset)))
			wantRun(t, wide("abcd"[:literals], "abcd"[literals:], from(uint32(4-literals), c.match, c.offset)), want)
		}
	}
}

func TestLongCopiesReachIntoThemselves(t *testing.T) {
	for _, offset := range []int{1, 2, 3, 7, 8, 9, 255, 1000} {
		text := make([]byte, offset)
		for i := range text {
			text[i] = byte(i*i + i/3)
		}
		for _, match := range []int{offset - 1, offset, offset + 1, 2*offset - 1, 2 * offset, 2*offset + 1, 65539, 131074} {
			want := bytes.Repeat(text, match/offset+2)[:offset+match]
			l := []api.Sequence{from(uint32(offset), uint32(match), uint32(offset))}
			wantRun(t, work{"", string(text), l, execute.First(), uint64(offset), len(want)}, ran{b: want, r: execute.Reps{uint32(offset), 1, 4}})
		}
	}
}

// Nothing is kept: what was done, or refused, ahead changes no answer.
func TestTheSameAgain(t *testing.T) {
	for range 3 {
		wantRun(t, wide("a", "b", from(1, 3, 1)), ran{b: []byte("abbbb"), r: execute.Reps{1, 1, 4}})
		wantRun(t, wide("a", "b", from(2, 3, 1)), refusal(api.ErrForm))
		wantRun(t, wide("a", "b", from(1, 3, 3)), refusal(api.ErrOffset))
		wantRun(t, wide("abc", "", api.Sequence{Match: 1, Offset: 1}), refusal(api.ErrOffset))
		wantTold(t, execute.Reps{7, 8, 9}, 0, 8)
	}
}
