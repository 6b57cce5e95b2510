package encode_test

import (
	"fmt"
	mathbits "math/bits"

	"lighterman/xxh"
)

// Another decoder, that holds to the document by itself: but for the sum it asks none of the layers.

// Modes and kinds, as frames tell them.
const (
	rawBlock, sameBlock, packedBlock              = 0, 1, 2
	rawText, sameText, freshText, knownText       = 0, 1, 2, 3
	givenTable, singleTable, toldTable, oldTable  = 0, 1, 2, 3
	literalCodes, offsetCodes, matchCodes, kinds3 = 0, 1, 2, 3
)

// seen is a block that was read.
type seen struct {
	kind    int
	size    int // as its head tells it
	makes   int
	text    int   // how its literals are told, if it is packed
	literal int   // how many of them there are
	offsets []int // of its sequences, as they are told
	matches []int
	modes   [kinds3]int
}

// anatomy is a frame that was read.
type anatomy struct {
	made   []byte
	sum    bool
	blocks []seen
}

// fault is why bytes are no frame.
type fault string

// must fails, unless something holds.
func must(holds bool, format string, what ...any) {
	if !holds {
		panic(fault(fmt.Sprintf(format, what...)))
	}
}

// another reads bytes that are one frame and nothing else; or tells why they aren't.
func another(b []byte) (a anatomy, why string) {
	defer func() {
		switch x := recover().(type) {
		case nil:
		case fault:
			why = string(x)
		default:
			why = fmt.Sprint("panic: ", x)
		}
	}()
	r := &reader{b}
	must(r.number(4) == 0xFD2FB528, "no frame's first number")
	first := r.number(1)
	must(first&(8|16) == 0 && first&3 == 0, "the head's first byte is %d", first)
	must(first&32 != 0, "not one segment")
	a.sum = first&4 != 0
	size := 0
	switch first >> 6 {
	case 0:
		size = r.number(1)
	case 1:
		size = r.number(2) + 256
	case 2:
		size = r.number(4)
	case 3:
		size = r.number(8)
	}
	must(size <= 1<<22, "a window of %d", size)
	s := standing{offsets: [3]int{1, 4, 8}, window: size}
	for last := false; !last; {
		last = s.block(r, &a)
	}
	a.made = s.made
	must(len(a.made) == size, "%d bytes; the head tells %d", len(a.made), size)
	if a.sum {
		must(uint32(r.number(4)) == uint32(xxh.Of(a.made)), "another sum")
	}
	must(len(r.b) == 0, "%d bytes behind the frame", len(r.b))
	return a, ""
}

// reader reads bytes from the front.
type reader struct{ b []byte }

func (r *reader) take(n int) []byte {
	must(n <= len(r.b), "%d bytes lack", n-len(r.b))
	b := r.b[:n]
	r.b = r.b[n:]
	return b
}

func (r *reader) number(n int) int {
	x := 0
	for i, c := range r.take(n) {
		x |= int(c) << (8 * i)
	}
	return x
}

// standing is what stands from block to block.
type standing struct {
	made    []byte
	window  int
	offsets [3]int
	prefix  prefix
	tables  [kinds3]states
}

// block reads a block, and tells whether it is the last one.
func (s *standing) block(r *reader, a *anatomy) bool {
	head := r.number(3)
	x := seen{kind: head >> 1 & 3, size: head >> 3}
	ahead := len(s.made)
	bound := min(s.window, 131072)
	must(x.size <= bound, "a block's size is %d", x.size)
	switch x.kind {
	case rawBlock:
		s.made = append(s.made, r.take(x.size)...)
	case sameBlock:
		c := r.take(1)[0]
		for range x.size {
			s.made = append(s.made, c)
		}
	case packedBlock:
		in := &reader{r.take(x.size)}
		text := s.text(in, &x)
		s.sequences(in, text, &x)
	default:
		must(false, "a block of kind 3")
	}
	x.makes = len(s.made) - ahead
	must(x.makes <= bound, "a block makes %d", x.makes)
	a.blocks = append(a.blocks, x)
	return head&1 != 0
}

// prefix is codes: of each number of so many bits the symbol whose code it begins with.
type prefix struct {
	bits    int
	symbols []byte
	lengths []int
}

// prefixOf are the codes of weights that stand in half bytes, without the last one.
func prefixOf(in *reader) prefix {
	n := in.number(1) - 127
	must(n > 0, "weights that are told by states, as layer 8 never does")
	var weights []int
	for _, c := range in.take((n + 1) / 2) {
		weights = append(weights, int(c>>4), int(c&15))
	}
	must(n%2 == 0 || weights[n] == 0, "a last half byte that is none's")
	weights = weights[:n]
	sum := 0
	for _, w := range weights {
		must(w <= 11, "a weight of %d", w)
		if w > 0 {
			sum += 1 << (w - 1)
		}
	}
	must(sum > 0, "no weights")
	p := prefix{bits: mathbits.Len(uint(sum))}
	must(p.bits <= 11, "a depth of %d", p.bits)
	left := 1<<p.bits - sum
	must(mathbits.OnesCount(uint(left)) == 1, "%d is left for the last weight", left)
	weights = append(weights, mathbits.Len(uint(left)))
	ones := 0
	for w := 1; w <= p.bits; w++ {
		for symbol, x := range weights {
			for range 1 << w >> 1 {
				if x == w {
					p.symbols, p.lengths = append(p.symbols, byte(symbol)), append(p.lengths, p.bits+1-w)
				}
			}
			if x == w && w == 1 {
				ones++
			}
		}
	}
	must(len(p.symbols) == 1<<p.bits, "weights that don't fill the depth")
	must(ones >= 2, "fewer than two longest codes")
	return p
}

// stream reads so many symbols from a stream, all that it has.
func (p prefix) stream(b []byte, n int) []byte {
	r := backwardOf(b)
	var l []byte
	for range n {
		x := r.peek(p.bits)
		l = append(l, p.symbols[x])
		r.left -= p.lengths[x]
	}
	must(r.left == 0, "%d bits are left of a stream", r.left)
	return l
}

// text reads a section of literals.
func (s *standing) text(in *reader, x *seen) []byte {
	first := int(in.b[0])
	x.text = first & 3
	form := first >> 2 & 3
	if x.text == rawText || x.text == sameText {
		n := in.number([]int{1, 2, 1, 3}[form]) >> []int{3, 4, 3, 4}[form]
		x.literal = n
		must(n <= 131072, "%d literals", n)
		if x.text == rawText {
			return in.take(n)
		}
		c := in.take(1)[0]
		l := make([]byte, n)
		for i := range l {
			l[i] = c
		}
		return l
	}
	bits := []int{10, 10, 14, 18}[form]
	head := in.number([]int{3, 3, 4, 5}[form]) >> 4
	n, size := head&(1<<bits-1), head>>bits
	x.literal = n
	must(n > 0 && n <= 131072, "%d packed literals", n)
	inner := &reader{in.take(size)}
	if x.text == freshText {
		s.prefix = prefixOf(inner)
	}
	must(s.prefix.bits > 0, "no weights count yet")
	if form == 0 {
		return s.prefix.stream(inner.b, n)
	}
	must(n >= 6, "four streams of %d literals", n)
	var sizes [3]int
	for i := range sizes {
		sizes[i] = inner.number(2)
	}
	each := (n + 3) / 4
	var l []byte
	for _, size := range sizes {
		l = append(l, s.prefix.stream(inner.take(size), each)...)
	}
	return append(l, s.prefix.stream(inner.b, n-3*each)...)
}

// sequences reads a section of sequences, and does them.
func (s *standing) sequences(in *reader, text []byte, x *seen) {
	n := in.number(1)
	switch {
	case n == 255:
		n = in.number(2) + 0x7F00
	case n > 127:
		n = (n-128)*256 + in.number(1)
	}
	if n > 0 {
		text = s.copies(in, n, text, x)
	}
	must(n > 0 || len(in.b) == 0, "bytes behind a section of no sequences")
	s.made = append(s.made, text...)
}

// copies reads so many sequences, and does them; it is the literals that are left.
func (s *standing) copies(in *reader, n int, text []byte, x *seen) []byte {
	modes := in.number(1)
	must(modes&3 == 0, "modes of %d", modes)
	for kind := range s.tables {
		x.modes[kind] = modes >> (6 - 2*kind) & 3
		s.table(in, kind, x.modes[kind])
	}
	r := backwardOf(in.b)
	var at [kinds3]int
	for kind, t := range s.tables {
		at[kind] = r.read(t.log)
	}
	for i := range n {
		offset := s.tables[offsetCodes].value(at[offsetCodes], r)
		match := s.tables[matchCodes].value(at[matchCodes], r)
		literals := s.tables[literalCodes].value(at[literalCodes], r)
		x.offsets, x.matches = append(x.offsets, offset), append(x.matches, match)
		must(literals <= len(text), "a sequence of %d literals, of %d", literals, len(text))
		s.made = append(s.made, text[:literals]...)
		text = text[literals:]
		from := s.offset(offset, literals)
		must(from > 0 && from <= len(s.made) && from <= s.window, "a copy from %d ahead, of %d", from, len(s.made))
		for range match {
			s.made = append(s.made, s.made[len(s.made)-from])
		}
		if i < n-1 {
			for _, kind := range []int{literalCodes, matchCodes, offsetCodes} {
				at[kind] = s.tables[kind].next(at[kind], r)
			}
		}
	}
	must(r.left == 0, "%d bits are left of sequences", r.left)
	return text
}

// offset is how far ahead an Offset tells; the repeated ones move on.
func (s *standing) offset(told, literals int) int {
	a, b, c := s.offsets[0], s.offsets[1], s.offsets[2]
	if told > 3 {
		s.offsets = [3]int{told - 3, a, b}
		return told - 3
	}
	if literals == 0 {
		told++
	}
	switch told {
	case 2:
		s.offsets = [3]int{b, a, c}
	case 3:
		s.offsets = [3]int{c, a, b}
	case 4:
		s.offsets = [3]int{a - 1, a, b}
	}
	return s.offsets[0]
}

// backward reads bits from the back.
type backward struct {
	b    []byte
	left int
}

func backwardOf(b []byte) *backward {
	must(len(b) > 0 && b[len(b)-1] != 0, "a stream without its end")
	return &backward{b, 8*(len(b)-1) + mathbits.Len8(b[len(b)-1]) - 1}
}

func (r *backward) peek(n int) int {
	x := 0
	for i := range n {
		x <<= 1
		if at := r.left - 1 - i; at >= 0 {
			x |= int(r.b[at/8]>>(at%8)) & 1
		}
	}
	return x
}

func (r *backward) read(n int) int {
	x := r.peek(n)
	r.left -= n
	must(r.left >= 0, "bits lack")
	return x
}

// states is a table: of each state its code, how many bits are read behind it, and what is added to them.
type states struct {
	log                int
	codes, bits, begin []int
	values             [2][]int // of each code where it begins, and how many bits are added
}

func (t states) value(at int, r *backward) int {
	code := t.codes[at]
	return t.values[0][code] + r.read(t.values[1][code])
}

func (t states) next(at int, r *backward) int { return t.begin[at] + r.read(t.bits[at]) }

// table reads a kind's table.
func (s *standing) table(in *reader, kind, mode int) {
	t := states{values: valuesOf(kind)}
	switch mode {
	case givenTable:
		t.log, t.codes, t.bits, t.begin = spread(given(kind))
	case singleTable:
		code := in.number(1)
		must(code < len(t.values[0]), "a code of %d", code)
		t.codes, t.bits, t.begin = []int{code}, []int{0}, []int{0}
	case toldTable:
		counts := countsOf(in, []int{9, 8, 9}[kind])
		must(len(counts) <= len(t.values[0]), "%d codes", len(counts))
		t.log, t.codes, t.bits, t.begin = spread(counts)
	default:
		must(s.tables[kind].codes != nil, "no table counts yet")
		return
	}
	s.tables[kind] = t
}

// given are the counts that are given.
func given(kind int) []int {
	switch kind {
	case literalCodes:
		return []int{4, 3, 2, 2, 2, 2, 2, 2, 2, 2, 2, 2, 2, 1, 1, 1, 2, 2, 2, 2, 2, 2, 2, 2, 2, 3, 2, 1, 1, 1, 1, 1, -1, -1, -1, -1}
	case offsetCodes:
		return []int{1, 1, 1, 1, 1, 1, 2, 2, 2, 1, 1, 1, 1, 1, 1, 1, 1, 1, 1, 1, 1, 1, 1, 1, -1, -1, -1, -1, -1}
	}
	return []int{1, 4, 3, 2, 2, 2, 2, 2, 2, 1, 1, 1, 1, 1, 1, 1, 1, 1, 1, 1, 1, 1, 1, 1, 1, 1, 1, 1, 1, 1, 1, 1, 1, 1, 1, 1, 1, 1, 1, 1, 1, 1, 1, 1, 1, 1, -1, -1, -1, -1, -1, -1, -1}
}

// valuesOf are where each code begins, and how many bits are added, as the format's own text has them.
func valuesOf(kind int) [2][]int {
	var begin, bits []int
	switch kind {
	case literalCodes:
		for i := range 16 {
			begin, bits = append(begin, i), append(bits, 0)
		}
		begin = append(begin, 16, 18, 20, 22, 24, 28, 32, 40, 48, 64, 128, 256, 512, 1024, 2048, 4096, 8192, 16384, 32768, 65536)
		bits = append(bits, 1, 1, 1, 1, 2, 2, 3, 3, 4, 6, 7, 8, 9, 10, 11, 12, 13, 14, 15, 16)
	case matchCodes:
		for i := range 32 {
			begin, bits = append(begin, i+3), append(bits, 0)
		}
		begin = append(begin, 35, 37, 39, 41, 43, 47, 51, 59, 67, 83, 99, 131, 259, 515, 1027, 2051, 4099, 8195, 16387, 32771, 65539)
		bits = append(bits, 1, 1, 1, 1, 2, 2, 3, 3, 4, 4, 5, 7, 8, 9, 10, 11, 12, 13, 14, 15, 16)
	default:
		for i := range 32 {
			begin, bits = append(begin, 1<<i), append(bits, i)
		}
	}
	return [2][]int{begin, bits}
}

// countsOf reads how often codes are.
func countsOf(in *reader, most int) []int {
	at := 0
	bits := func(n int) int {
		x := 0
		for i := range n {
			must(at/8 < len(in.b), "bits of counts lack")
			x |= int(in.b[at/8]>>(at%8)) & 1 << i
			at++
		}
		return x
	}
	log := bits(4) + 5
	must(log <= most, "a power of %d", log)
	var counts []int
	for left := 1 << log; left > 0; {
		wide := mathbits.Len(uint(left + 1))
		short := 1<<wide - 1 - (left + 1) // so many values have a bit less
		x := bits(wide - 1)
		if x >= short {
			x |= bits(1) << (wide - 1)
			if x >= 1<<(wide-1) {
				x -= short
			}
		}
		counts = append(counts, x-1)
		switch x {
		case 0: // less than one part: it takes one, too
			left--
		case 1:
			for more := 3; more == 3; {
				more = bits(2)
				counts = append(counts, make([]int, more)...)
			}
		default:
			left -= x - 1
		}
	}
	in.take((at + 7) / 8)
	return counts
}

// spread is the table of counts.
func spread(counts []int) (log int, codes, bits, begin []int) {
	size := 0
	for _, n := range counts {
		size += max(n, -n)
	}
	log = mathbits.TrailingZeros(uint(size))
	must(size == 1<<log, "parts of %d", size)
	codes = make([]int, size)
	high := size - 1
	for code, n := range counts {
		if n < 0 {
			codes[high] = code
			high--
		}
	}
	at := 0
	for code, n := range counts {
		for range n {
			codes[at] = code
			at = (at + size/2 + size/8 + 3) % size
			for at > high {
				at = (at + size/2 + size/8 + 3) % size
			}
		}
	}
	must(at == 0, "a walk that ends at %d", at)
	next := map[int]int{}
	for _, code := range codes {
		x := max(counts[code], 1) + next[code]
		next[code]++
		n := log + 1 - mathbits.Len(uint(x))
		bits, begin = append(bits, n), append(begin, x<<n-size)
	}
	return log, codes, bits, begin
}
