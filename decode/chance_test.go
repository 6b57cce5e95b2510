package decode_test

import (
	"bytes"
	"math/rand/v2"
	"slices"
	"testing"

	"lighterman/api"
	"lighterman/literals"
)

// chanced is a frame of chance: its blocks, and what they make, reckoned without any layer that reads.
type chanced struct {
	c       *rand.Rand
	head    head
	window  int
	blocks  [][]byte
	made    []byte
	weights []byte
	ahead   []api.Sequence // whose tables count
	section []byte         // of these
	offsets [3]int

	leaning, afresh int // how many sections lean on tables or weights ahead, and how many don't
}

// text are so many bytes, few of which are unlike.
func (f *chanced) text(n int) []byte {
	b := make([]byte, n)
	for i := range b {
		b[i] = 'a' + byte(f.c.IntN(1+f.c.IntN(9)))
	}
	return b
}

// add lays a block of some kind behind.
func (f *chanced) add() {
	switch n := f.c.IntN(200); f.c.IntN(5) {
	case 0:
		b := f.text(n)
		f.blocks = append(f.blocks, raw(string(b)))
		f.made = append(f.made, b...)
	case 1:
		n *= 1 + f.c.IntN(5)
		f.blocks = append(f.blocks, same('z', n))
		f.made = append(f.made, each(n, 'z')...)
	default:
		f.addPacked()
	}
}

// addPacked lays a packed block behind.
func (f *chanced) addPacked() {
	l, section := f.sequences()
	n := f.c.IntN(100)
	for _, s := range l {
		n += int(s.Literals)
	}
	text := f.text(n)
	f.blocks = append(f.blocks, packed(f.literals(text), section))
	for _, s := range l {
		x := f.move(s)
		f.made = append(f.made, text[:s.Literals]...)
		text = text[s.Literals:]
		for range s.Match {
			f.made = append(f.made, f.made[len(f.made)-x])
		}
	}
	f.made = append(f.made, text...)
}

// literals is a section of a text, or of one byte of it again and again, which the text is then.
func (f *chanced) literals(text []byte) []byte {
	switch f.c.IntN(4) {
	case 0:
		if len(text) > 0 {
			copy(text, each(len(text), text[0]))
			return must(literals.Same(text[0], len(text)))
		}
	case 1:
		if len(text) > 0 && slices.Min(text) != slices.Max(text) {
			f.weights = weighed(string(text))
			f.afresh++
			return fresh(string(text), f.weights)
		}
	case 2:
		section, err := literals.Packed(text, f.weights, false)
		if err == api.OK {
			f.leaning++
			return section
		}
	}
	return plain(string(text))
}

// sequences are some that may be done, and their section.
func (f *chanced) sequences() ([]api.Sequence, []byte) {
	if f.c.IntN(4) == 0 {
		return nil, row()
	}
	if f.c.IntN(3) > 0 && len(f.ahead) > 0 && f.mayBe(f.ahead) {
		f.leaning++
		return f.ahead, again(f.section, [][]int{{0}, {1}, {2}, {0, 2}, {0, 1, 2}}[f.c.IntN(5)]...)
	}
	most := 1 + f.c.IntN(40)
	l := make([]api.Sequence, 1+f.c.IntN(most))
	for i := range l {
		l[i] = api.Sequence{Literals: uint32(f.c.IntN(4)), Match: uint32(3 + f.c.IntN(9)), Offset: uint32(1 + f.c.IntN(1+f.c.IntN(40)))}
	}
	if f.c.IntN(5) == 0 {
		l[0] = from(uint32(f.c.IntN(3)), 5, uint32(max(1, min(len(f.made), f.window))))
	}
	if !f.mayBe(l) {
		return nil, row()
	}
	f.ahead, f.section = l, row(l...)
	f.afresh++
	return l, f.section
}

// mayBe tells whether sequences copy from nowhere ahead of the frame, or further than the window is, and make few bytes.
func (f *chanced) mayBe(l []api.Sequence) bool {
	there, makes := len(f.made), 0
	defer func(offsets [3]int) { f.offsets = offsets }(f.offsets)
	for _, s := range l {
		there += int(s.Literals)
		if x := f.move(s); x < 1 || x > min(there, f.window) {
			return false
		}
		there += int(s.Match)
		makes += int(s.Literals + s.Match)
	}
	return makes < 900
}

// move is how far ahead a sequence copies from; the offsets move on.
func (f *chanced) move(s api.Sequence) int {
	first, second, third := f.offsets[0], f.offsets[1], f.offsets[2]
	which := s.Offset
	if s.Literals == 0 && which <= 3 {
		which++
	} else if which > 3 {
		which = 9
	}
	switch which {
	case 1:
	case 2:
		f.offsets = [3]int{second, first, third}
	case 3:
		f.offsets = [3]int{third, first, second}
	case 4:
		f.offsets = [3]int{first - 1, first, second}
	default:
		f.offsets = [3]int{int(s.Offset) - 3, first, second}
	}
	return f.offsets[0]
}

// newChanced is a frame of chance.
func newChanced(c *rand.Rand) *chanced {
	f := &chanced{c: c, window: 1024, offsets: [3]int{1, 4, 8}}
	if c.IntN(3) == 0 {
		f.head.window, f.window = 8, 2048
	}
	for range 1 + c.IntN(12) {
		f.add()
	}
	f.head.known = c.IntN(2) == 0
	if f.head.known {
		f.head.size = uint64(len(f.made))
	}
	f.head.sum = c.IntN(2) == 0
	longest := slices.MaxFunc(f.blocks, func(a, b []byte) int { return len(a) - len(b) })
	// As one segment, its bound is its size.
	if f.head.known && len(longest)-3 <= len(f.made) && len(f.made) <= f.window && c.IntN(2) == 0 {
		f.head.segment = true
	}
	return f
}

// bytes is the frame as it is written.
func (f *chanced) bytes() []byte {
	b := f.head.of(f.blocks...)
	if f.head.sum {
		b = then(b, sumOf(string(f.made)))
	}
	return b
}

func TestFramesOfChance(t *testing.T) {
	c := rand.New(rand.NewPCG(16, 1))
	leaning, afresh := 0, 0
	for range 1500 {
		f := newChanced(c)
		wantDecoded(t, bounds{11, len(f.made)}, f.bytes(), decoded{b: f.made, frames: 1})
		leaning += f.leaning
		afresh += f.afresh
		if len(f.made) > 0 {
			wantDecoded(t, bounds{11, len(f.made) - 1}, f.bytes(), refusal(api.ErrBig))
		}
	}
	if leaning < 1000 || afresh < 1000 {
		t.Errorf("only %d sections lean on what is ahead, %d don't", leaning, afresh)
	}
}

// spoilt is a list of which some bytes, or bits, are others, or lack, or are more.
func spoilt(c *rand.Rand, b []byte) []byte {
	b = bytes.Clone(b)
	for range 1 + c.IntN(2) {
		place := c.IntN(len(b) + 1)
		if c.IntN(3) == 0 {
			place = min(place, c.IntN(30))
		}
		switch c.IntN(8) {
		case 0:
			b = b[:place]
		case 1:
			b = slices.Insert(b, place, byte(c.Uint32()))
		case 2:
			b = slices.Delete(b, place, min(place+1, len(b)))
		case 3:
			b = append(b, byte(c.Uint32()))
		case 4:
			if place < len(b) {
				b[place] = byte(c.Uint32())
			}
		default:
			if place < len(b) {
				b[place] ^= 1 << c.IntN(8)
			}
		}
	}
	return b
}

func TestSpoiltFramesOfChance(t *testing.T) {
	c := rand.New(rand.NewPCG(16, 2))
	rounds := 2000
	if testing.Short() {
		rounds = 200
	}
	taken, refused := 0, map[api.Errno]int{}
	for range rounds {
		b := newChanced(c).bytes()
		switch c.IntN(4) {
		case 0:
			b = then(b, newChanced(c).bytes())
		case 1:
			b = then(skipped(c.IntN(16), noise(c.IntN(20))...), b)
		}
		for range 10 {
			w := bounds{10 + c.IntN(3), c.IntN(4000)}
			got := wantAsInWords(t, w, spoilt(c, b))
			if got.err == api.OK {
				taken++
			}
			refused[got.err]++
		}
	}
	for _, err := range []api.Errno{api.ErrShort, api.ErrForm, api.ErrBig, api.ErrSum, api.ErrDict, api.ErrLeft, api.ErrOffset} {
		if refused[err] < rounds/1000 {
			t.Errorf("only %d were refused by the error %d", refused[err], int(err))
		}
	}
	if taken < rounds/4 {
		t.Errorf("only %d were taken", taken)
	}
}

func TestBytesOfChance(t *testing.T) {
	c := rand.New(rand.NewPCG(16, 3))
	for range 5000 {
		b := make([]byte, c.IntN(40))
		for i := range b {
			b[i] = byte(c.Uint32() >> c.IntN(32))
		}
		wantAsInWords(t, bounds{10 + c.IntN(13), c.IntN(2000)}, b)
		wantAsInWords(t, bounds{10 + c.IntN(13), c.IntN(2000)}, then(number(framed, 4), b))
		wantAsInWords(t, bounds{10 + c.IntN(13), c.IntN(2000)}, then(small().bytes(), b))
		wantAsInWords(t, bounds{10 + c.IntN(13), c.IntN(2000)}, then(small().bytes(), packed(b)))
		wantAsInWords(t, bounds{10 + c.IntN(13), c.IntN(2000)}, then(number(firstSkipped+c.Uint64N(16), 4), number(c.Uint64N(50), 4), b))
	}
}

// P16.3

func TestFramesAreDecodedToWhatTheyAreAlone(t *testing.T) {
	c := rand.New(rand.NewPCG(16, 4))
	for range 200 {
		var b []byte
		var want decoded
		for range c.IntN(8) {
			if c.IntN(3) == 0 {
				b = append(b, skipped(c.IntN(16), noise(c.IntN(30))...)...)
				want.skipped++
				continue
			}
			f := newChanced(c)
			alone := free().decode(t, f.bytes())
			b, want.b = append(b, f.bytes()...), append(want.b, alone.b...)
			want.frames++
		}
		wantDecoded(t, free(), b, want)
		wantDecoded(t, bounds{11, len(want.b)}, b, want)
		if len(want.b) > 0 {
			wantDecoded(t, bounds{11, len(want.b) - 1}, b, refusal(api.ErrBig))
		}
	}
}

// What is decoded doesn't hang on what was decoded before it.
func TestWhatIsDecodedHangsOnNothingElse(t *testing.T) {
	c := rand.New(rand.NewPCG(16, 5))
	var frames [][]byte
	var first []decoded
	for range 60 {
		b := newChanced(c).bytes()
		if c.IntN(3) == 0 {
			b = spoilt(c, b)
		}
		frames = append(frames, b)
		first = append(first, free().decode(t, b))
	}
	for range 2000 {
		i := c.IntN(len(frames))
		if got := free().decode(t, frames[i]); !got.is(first[i]) {
			t.Fatalf("%x: %v; at first %v", frames[i], got, first[i])
		}
	}
}
