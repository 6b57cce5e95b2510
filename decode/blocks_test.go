package decode_test

import (
	"slices"
	"strings"
	"testing"

	"lighterman/api"
	"lighterman/fse"
	"lighterman/literals"
	"lighterman/sequences"
	"lighterman/tables"
	"lighterman/weights"
)

// P16.1: blocks' heads, and their bytes

func TestBlockHeadThatIsRefused(t *testing.T) {
	for _, h := range []head{small(), segment(7), small().withSum(), sized(2)} {
		for _, ahead := range [][]byte{nil, raw(""), raw("ab"), same('a', 2), packed(plain("ab"), row())} {
			b := then(h.bytes(), ahead)
			if h.segment && len(ahead) > 0 && ahead[0]&6 == 4 {
				continue // such a block is above its bound
			}
			for _, x := range [][]byte{raw(""), block(3, 0), block(2, 2000), each(3, 255)} {
				for n := range 3 {
					wantRefused(t, free(), then(b, x[:n]), api.ErrShort)
				}
			}
			for _, size := range []int{0, 1, 7, 1024, 1025, mostBlock, 1<<21 - 1} {
				x := block(3, size)
				wantRefused(t, free(), then(b, x), api.ErrForm)
				wantRefused(t, free(), then(b, x, each(2000, 7)), api.ErrForm)
				x[0] |= 1
				wantRefused(t, free(), then(b, x), api.ErrForm)
				wantRefused(t, free(), then(b, x, each(2000, 7)), api.ErrForm)
			}
		}
	}
}

func TestBlockOfNoBytes(t *testing.T) {
	wantDecoded(t, free(), small().of(raw("")), made(""))
	wantDecoded(t, free(), small().of(raw(""), raw(""), raw("a"), raw("")), made("a"))
	wantDecoded(t, free(), segment(0).of(raw("")), made(""))

	// Same ones have their byte all the same.
	wantDecoded(t, free(), small().of(same('a', 0)), made(""))
	wantDecoded(t, free(), small().of(same('a', 0), same('b', 1), same('c', 0)), made("b"))
	wantDecoded(t, free(), segment(0).of(same('a', 0)), made(""))
	wantDecoded(t, free(), then(small().of(same('a', 0)), small().of(raw("b"))), decoded{b: []byte("b"), frames: 2})
	wantRefused(t, free(), small().of(block(1, 0)), api.ErrShort)
	wantRefused(t, free(), segment(0).of(block(1, 0)), api.ErrShort)
	wantRefused(t, free(), small().of(raw("a"), block(1, 0)), api.ErrShort)

	// Packed ones lack their literals' head.
	wantRefused(t, free(), small().of(packed()), api.ErrShort)
	wantRefused(t, free(), small().of(packed(), raw("a")), api.ErrShort)
	wantRefused(t, free(), small().of(raw("a"), packed()), api.ErrShort)
	wantRefused(t, free(), segment(0).of(packed()), api.ErrShort)
	wantRefused(t, free(), then(small().bytes(), packed(), each(9, 0)), api.ErrShort)

	// One that makes nothing has two bytes at least.
	wantDecoded(t, free(), small().of(packed(plain(""), row())), made(""))
	wantDecoded(t, free(), segment(2).of(packed(plain(""), row()), raw("ab")), made("ab"))
	wantRefused(t, free(), segment(1).of(packed(plain(""), row()), raw("a")), api.ErrBig)
	wantRefused(t, free(), segment(0).of(packed(plain(""), row())), api.ErrBig)
}

func TestBlockOfBytesThatLack(t *testing.T) {
	for _, size := range []int{1, 2, 5, 100, 1023, 1024} {
		x := block(0, size)
		for _, there := range []int{0, 1, size / 2, size - 1} {
			if there < size {
				wantRefused(t, free(), small().of(then(x, each(there, 7))), api.ErrShort)
				wantRefused(t, free(), then(small().bytes(), x, each(there, 7)), api.ErrShort)
				wantRefused(t, free(), small().of(then(block(2, size), each(there, 0))), api.ErrShort)
			}
		}
		wantRefused(t, free(), small().of(block(1, size)), api.ErrShort)
		wantDecoded(t, free(), small().of(then(block(1, size), []byte{'y'})), made(strings.Repeat("y", size)))
	}
	// They are looked for ahead of what they tell: no literals' error here.
	wantRefused(t, free(), small().of(then(block(2, 4), []byte{3, 0, 0})), api.ErrShort)
}

// P16.1: the block's bound

// boundOf is the lesser one of a window and 131072.
func boundOf(window int) int { return min(window, mostBlock) }

// wantWithinBound fails, unless a frame's blocks of each kind may have, and make, just so many bytes.
func wantWithinBound(t *testing.T, h head, bound int) {
	t.Helper()
	text := strings.Repeat("b", bound)
	wantDecoded(t, free(), h.of(raw(text)), made(text))
	wantDecoded(t, free(), h.of(same('b', bound)), made(text))
	wantDecoded(t, free(), h.of(raw("b"), raw(text), same('b', bound)), made("b"+text+text))
	wantRefused(t, free(), h.of(raw(text+"b")), api.ErrBig)
	wantRefused(t, free(), h.of(same('b', bound+1)), api.ErrBig)
	wantRefused(t, free(), h.of(raw("b"), raw(text+"b")), api.ErrBig)

	just, makes := filled(bound)
	wantDecoded(t, free(), h.of(just), made(makes))
	wantDecoded(t, free(), h.of(just, raw("z"), just), made(makes+"z"+makes))
	more, _ := filled(bound + 1)
	wantRefused(t, free(), h.of(more), api.ErrBig)
	wantRefused(t, free(), h.of(just, more), api.ErrBig)

	// Ahead of bytes that lack.
	for _, size := range []int{bound + 1, bound + 2, 1<<21 - 1} {
		for kind := range 3 {
			wantRefused(t, free(), then(h.bytes(), block(kind, size)), api.ErrBig)
			wantRefused(t, free(), h.of(raw("b"), block(kind, size)), api.ErrBig)
			wantRefused(t, free(), then(h.bytes(), block(kind, size), each(2, 3)), api.ErrBig)
		}
	}
	for kind := range 3 {
		wantRefused(t, free(), then(h.bytes(), block(kind, bound)), api.ErrShort)
	}
}

// wantMadeWithinBound fails, unless a packed block makes just so many bytes, of literals and of copies, behind others.
func wantMadeWithinBound(t *testing.T, h head, bound int) {
	t.Helper()
	text := strings.Repeat("b", bound)
	literally := func(n int) []byte { return must(literals.Same('b', n)) }
	for _, ahead := range []string{"", "b", strings.Repeat("b", min(bound, 1000))} {
		behind := func(x []byte) []byte { return h.of(raw(ahead), x) }
		wantDecoded(t, free(), behind(packed(literally(bound), row())), made(ahead+text))
		wantDecoded(t, free(), behind(packed(literally(bound-3), row(from(1, 3, 1)))), made(ahead+text))
		wantDecoded(t, free(), behind(packed(literally(1), row(from(1, uint32(bound-1), 1)))), made(ahead+text))
		wantDecoded(t, free(), behind(packed(literally(2), row(from(1, uint32(bound-5), 1), from(0, 3, 1)))), made(ahead+text))
		wantRefused(t, free(), behind(packed(literally(bound-2), row(from(1, 3, 1)))), api.ErrBig)
		wantRefused(t, free(), behind(packed(literally(1), row(from(1, uint32(bound), 1)))), api.ErrBig)
		wantRefused(t, free(), behind(packed(literally(2), row(from(1, uint32(bound-1), 1)))), api.ErrBig)
		wantRefused(t, free(), behind(packed(literally(2), row(from(1, uint32(bound-5), 1), from(0, 4, 1)))), api.ErrBig)
		if bound < mostBlock {
			wantRefused(t, free(), behind(packed(literally(bound+1), row())), api.ErrBig)
		}
	}
}

func TestBoundOfAWindow(t *testing.T) {
	for _, c := range []struct {
		w      byte
		window int
	}{
		{0, 1024}, {1, 1152}, {7, 1920}, {8, 2048}, {9, 2304}, {55, 122880}, // below 131072
		{56, 131072}, {57, 147456}, {64, 262144}, {96, 4194304}, // and not
	} {
		bound := boundOf(c.window)
		wantWithinBound(t, ofWindow(c.w), bound)
		wantMadeWithinBound(t, ofWindow(c.w), bound)
	}
}

// Of one segment the window is its size.
func TestBoundOfOneSegment(t *testing.T) {
	for _, size := range []int{5, 6, 100, 1000, 1024, 1025, 5000} {
		h, text := segment(uint64(size)), strings.Repeat("b", size)
		wantDecoded(t, free(), h.of(raw(text)), made(text))
		wantDecoded(t, free(), h.of(same('b', size)), made(text))
		wantRefused(t, free(), h.of(raw(text+"b")), api.ErrBig)
		wantRefused(t, free(), h.of(same('b', size+1)), api.ErrBig)
		just, makes := filled(size)
		rest := strings.Repeat("r", size-len(makes))
		wantDecoded(t, free(), h.of(just, raw(rest)), made(makes+rest))
		more, _ := filled(size + 1)
		wantRefused(t, free(), h.of(more), api.ErrBig)
		if size < 10 {
			continue
		}
		wantDecoded(t, free(), h.of(packed(plain("b"), row(from(1, uint32(size-1), 1)))), made(text))
		wantRefused(t, free(), h.of(packed(plain("b"), row(from(1, uint32(size), 1)))), api.ErrBig)
		wantRefused(t, free(), h.of(raw("b"), packed(plain("b"), row(from(1, uint32(size-1), 1)))), api.ErrForm)
		wantRefused(t, free(), h.of(raw("b"), packed(plain("b"), row(from(1, uint32(size), 1)))), api.ErrBig)
	}
	for _, size := range []int{mostBlock - 1, mostBlock, mostBlock + 1, 200000} {
		bound := boundOf(size)
		h, text := segment(uint64(size)), strings.Repeat("b", size)
		blocks := [][]byte{raw(text[:bound])}
		if size > bound {
			blocks = append(blocks, same('b', size-bound))
		}
		wantDecoded(t, free(), h.of(blocks...), made(text))
		wantRefused(t, free(), h.of(raw(text[:bound]+"b")), api.ErrBig)
		wantRefused(t, free(), h.of(same('b', bound+1)), api.ErrBig)
		more, _ := filled(bound + 1)
		wantRefused(t, free(), h.of(more), api.ErrBig)
	}
}

// P16.1: the errors of packed blocks' sections

// literalsHead is how a section of literals begins: its kind, its form, how many there are, and, of kinds 2 and 3, how many bytes they are packed in.
func literalsHead(kind, form, n, bytes int) []byte {
	x := uint64(kind + 4*form)
	if kind < 2 {
		if form%2 == 0 {
			return number(x+uint64(n)*8, 1)
		}
		return number(x+uint64(n)*16, []int{1: 2, 3: 3}[form])
	}
	bits := []int{10, 10, 14, 18}[form]
	return number(x+uint64(n)*16+uint64(bytes)<<(4+bits), []int{3, 3, 4, 5}[form])
}

// described are literals packed by weights, of which there is a description, then streams.
func described(form, n int, behind string) []byte {
	b := byHex(behind)
	return then(literalsHead(2, form, n, len(b)), b)
}

func TestLiteralsThatAreRefused(t *testing.T) {
	// Bytes that lack: these sections are all that the block has.
	for _, b := range [][]byte{
		literalsHead(0, 1, 7, 0)[:1],
		literalsHead(1, 1, 7, 0)[:1],
		literalsHead(0, 3, 7, 0)[:2],
		literalsHead(1, 3, 7, 0)[:1],
		literalsHead(2, 0, 7, 7)[:2],
		literalsHead(3, 1, 7, 7)[:1],
		literalsHead(2, 2, 7, 7)[:3],
		literalsHead(3, 3, 7, 7)[:4],
		literalsHead(0, 0, 1, 0),
		then(literalsHead(0, 2, 5, 0), []byte("abcd")),
		then(literalsHead(0, 1, 300, 0), each(299, 'a')),
		then(literalsHead(0, 3, mostBlock, 0), each(900, 'a')),
		literalsHead(1, 0, 5, 0),
		literalsHead(1, 3, mostBlock, 0),
		then(literalsHead(2, 0, 3, 3), byHex("8010")),
		then(literalsHead(3, 0, 3, 3), byHex("0d0d")), // ahead of weights that there aren't
	} {
		wantSectionRefused(t, packed(b), api.ErrShort)
	}
	// Whatever stands behind them.
	for _, c := range []struct {
		b   []byte
		err api.Errno
	}{
		{literalsHead(0, 3, mostBlock+1, 0), api.ErrBig},
		{literalsHead(1, 3, mostBlock+1, 0), api.ErrBig},
		{literalsHead(0, 3, 1<<20-1, 0), api.ErrBig},
		{literalsHead(2, 3, mostBlock+1, 3), api.ErrBig},
		{literalsHead(3, 3, mostBlock+1, 1<<18-1), api.ErrBig},
		// Weights: none, fewer than told, such that may not be, such that there aren't.
		{described(0, 3, ""), api.ErrShort},
		{described(0, 3, "8310"), api.ErrShort},
		{described(0, 3, "8000"), api.ErrForm},
		{described(0, 3, "80c0"), api.ErrForm},
		{then(literalsHead(3, 0, 3, 1), byHex("0d")), api.ErrForm},
		{then(literalsHead(3, 3, 300, 10), each(10, 1)), api.ErrForm},
		// Streams: no bytes, none that ends, bits that lack, bits that are left.
		{described(0, 3, "8010"), api.ErrForm},
		{described(0, 3, "801000"), api.ErrForm},
		{described(0, 4, "80100d"), api.ErrForm},
		{described(0, 2, "80100d"), api.ErrLeft},
		// Four of them: fewer than six bytes, streams that aren't there, fewer literals than four may have.
		{described(1, 6, "8010"+"0100010001"), api.ErrShort},
		{described(1, 6, "8010"+"010001000100"+"0d0d"), api.ErrShort},
		{described(1, 5, "8010"+"010001000100"+"0d0d0d0d"), api.ErrForm},
	} {
		for _, behind := range [][]byte{nil, {0}, {1}, each(20, 0), row(from(9, 3, 1))} {
			wantSectionRefused(t, packed(c.b, behind), c.err)
		}
	}
	wantDecoded(t, free(), small().of(packed(described(0, 3, "80100d"), row())), made("\x01\x00\x01"))
}

// wantSectionRefused fails, unless a packed block is refused, as the first one, behind others, and with others behind.
func wantSectionRefused(t *testing.T, x []byte, err api.Errno) {
	t.Helper()
	wantRefused(t, free(), small().of(x), err)
	wantRefused(t, free(), small().of(x, block(3, 0)), err)
	wantRefused(t, free(), small().of(x, raw("abc")), err)
	wantRefused(t, free(), small().of(raw("abc"), x), err)
	wantRefused(t, free(), small().of(same('a', 1000), raw(""), x), err)
	wantRefused(t, free(), ofWindow(96).of(packed(plain("abc"), row()), x), err)
	wantRefused(t, free(), small().withSum().of(x), err)
	wantRefused(t, bounds{10, 0}, small().of(x), err) // ahead of too many bytes
	wantRefused(t, free(), sized(0).of(x), err)
	wantRefused(t, free(), then(small().of(x), each(3, 0)), err)
}

func TestSequencesThatAreRefused(t *testing.T) {
	for _, c := range []struct {
		section string
		err     api.Errno
	}{
		// How many there are, modes: bytes that lack, and such that are left.
		{"", api.ErrShort},
		{"80", api.ErrShort},
		{"ff", api.ErrShort},
		{"ff00", api.ErrShort},
		{"0000", api.ErrLeft},
		{"00000000000000", api.ErrLeft},
		{"800000", api.ErrLeft},
		{"01", api.ErrShort},
		{"8101", api.ErrShort},
		{"ff0000", api.ErrShort},
		{"015500000001", api.ErrForm},
		{"015600000001", api.ErrForm},
		{"015700000001", api.ErrForm},
		// Tables: bytes that lack, codes that there aren't, the one ahead where there is none.
		{"0154", api.ErrShort},
		{"015400", api.ErrShort},
		{"01540000", api.ErrShort},
		{"015424000001", api.ErrForm},
		{"015400200001", api.ErrForm},
		{"015400003501", api.ErrForm},
		{"01d4000001", api.ErrForm},
		{"0174000001", api.ErrForm},
		{"015c000001", api.ErrForm},
		{"01fc01", api.ErrForm},
		{"0194ff000001", api.ErrBig},
		{"0164000f0001", api.ErrBig},
		{"0158000fff01", api.ErrBig},
		// Bits: none, without an end, such that lack, such that are left.
		{"0154000000", api.ErrForm},
		{"015400000000", api.ErrForm},
		{"010001", api.ErrForm},
		{"015400010001", api.ErrForm},
		{"015400000002", api.ErrLeft},
		{"0154000000ff", api.ErrLeft},
	} {
		if tells := sequencesError(byHex(c.section)); tells != c.err {
			t.Errorf("%s: sequences.Read tells %d; want %d", c.section, int(tells), int(c.err))
		}
		for _, ahead := range [][]byte{plain(""), plain("abcdef"), must(literals.Same('x', 9))} {
			wantSectionRefused(t, packed(ahead, byHex(c.section)), c.err)
		}
	}
}

// sequencesError is the layer below's error of a section.
func sequencesError(section []byte) api.Errno {
	_, _, err := sequences.Read(section, sequences.Tables{})
	return err
}

func TestSequencesThatCantBeDone(t *testing.T) {
	for _, c := range []struct {
		x   []byte
		err api.Errno
	}{
		{packed(plain(""), row(from(1, 3, 1))), api.ErrForm},
		{packed(plain("ab"), row(from(3, 3, 1))), api.ErrForm},
		{packed(plain("ab"), row(from(1, 3, 1), from(2, 3, 1))), api.ErrForm},
		{packed(plain("ab"), row(from(2, 3, 1<<20))), api.ErrOffset},
		{packed(plain("ab"), row(from(2, 3, 1<<32-4))), api.ErrOffset},
		{packed(plain(""), row(repeated(0, 3, 3))), api.ErrOffset}, // the first one less 1
		{packed(plain("ab"), row(from(1, 3, 1), from(0, 3, 1<<20), from(1, 3, 1))), api.ErrOffset},
		// Which of them comes first.
		{packed(plain("ab"), row(from(3, 3, 1<<20))), api.ErrForm},
		{packed(plain("ab"), row(from(1, 131072, 1<<20))), api.ErrOffset},
		{packed(plain("ab"), row(from(1, 3, 1<<20), from(3, 3, 1))), api.ErrOffset},
	} {
		wantSectionRefused(t, c.x, c.err)
	}
	for _, h := range []head{small(), small().withSum()} {
		wantRefused(t, bounds{10, 0}, h.of(packed(plain("ab"), row(from(1, 1024, 1)))), api.ErrBig)
		wantRefused(t, free(), h.of(packed(plain("ab"), row(from(1, 1024, 1)))), api.ErrBig)
		wantRefused(t, free(), h.of(packed(plain("ab"), row(from(1, 1023, 1)))), api.ErrBig)
		wantRefused(t, free(), h.of(packed(plain("ab"), row(from(1, 131074, 1)))), api.ErrBig)
	}
	wantRefused(t, free(), ofWindow(96).of(packed(plain("ab"), row(from(1, 131071, 1)))), api.ErrBig)
	wantDecoded(t, free(), ofWindow(96).of(packed(plain("ab"), row(from(1, 131070, 1)))), made(strings.Repeat("a", 131071)+"b"))
}

// Of literals, of sequences, and of doing them the error that comes first in this order is told.
func TestWhichErrorOfAPackedBlock(t *testing.T) {
	refused := []struct {
		b   []byte
		err api.Errno
	}{
		{described(0, 2, "80100d"), api.ErrLeft},
		{described(0, 3, "8000"), api.ErrForm},
		{described(0, 3, "8310"), api.ErrShort},
		{literalsHead(0, 3, mostBlock+1, 0), api.ErrBig},
		{then(literalsHead(3, 0, 3, 1), byHex("0d")), api.ErrForm},
	}
	behind := []struct {
		b   []byte
		err api.Errno
	}{
		{byHex("0000"), api.ErrLeft},
		{byHex("0194ff000001"), api.ErrBig},
		{byHex("015400010001"), api.ErrForm},
		{then(row(from(9, 3, 1)), []byte{0}), api.ErrForm}, // without an end; and literals that lack, if it had one
		{row(from(9, 3, 1)), api.ErrForm},
		{row(from(0, 3, 1000)), api.ErrOffset},
		{row(from(0, 3000, 1)), api.ErrBig},
	}
	for _, second := range behind {
		for _, first := range refused {
			wantRefused(t, free(), small().of(raw("aaa"), packed(first.b, second.b)), first.err)
		}
		wantRefused(t, free(), small().of(raw("aaa"), packed(plain("abc"), second.b)), second.err)
	}
	// Bits that are left are told ahead of copies from ahead of all.
	wantRefused(t, free(), small().of(packed(plain("ab"), byHex("0154000a00"+"0008"))), api.ErrLeft)
	wantRefused(t, free(), small().of(packed(plain("ab"), byHex("0154000a00"+"0004"))), api.ErrOffset)
}

// P16.1: what goes on from block to block

// between are blocks that leave weights and tables as they are, with what they make.
func between() (blocks [][]byte, texts []string) {
	return [][]byte{raw(""), raw("RAW"), same('s', 4), same('s', 0), packed(plain("pl"), row()), packed(must(literals.Same('q', 3)), row())},
		[]string{"", "RAW", "ssss", "", "pl", "qqq"}
}

// weighed are weights for the bytes of a text.
func weighed(text string) []byte {
	often := make([]uint32, 256)
	for _, c := range []byte(text) {
		often[c]++
	}
	return must(weights.Of(often[:slices.Max([]byte(text))+1]))
}

// fresh are literals with a description of the weights that they are packed by.
func fresh(text string, l []byte) []byte { return must(literals.Packed([]byte(text), l, true)) }

// known are literals that are packed by weights that count already.
func known(text string, l []byte) []byte { return must(literals.Packed([]byte(text), l, false)) }

func TestWeightsGoOn(t *testing.T) {
	first, second := strings.Repeat("\x01\x02\x01\x03", 9), "\x03\x01\x02"
	l := weighed(first)
	begin, leaning := packed(fresh(first, l), row()), packed(known(second, l), row())
	wantDecoded(t, free(), small().of(begin, leaning), made(first+second))
	wantDecoded(t, free(), small().of(begin, leaning, leaning), made(first+second+second))

	// Over others.
	blocks, texts := between()
	for i := range blocks {
		wantDecoded(t, free(), small().of(begin, blocks[i], leaning), made(first+texts[i]+second))
		wantDecoded(t, free(), small().of(blocks[i], begin, leaning), made(texts[i]+first+second))
		for j := range blocks {
			wantDecoded(t, free(), small().of(begin, blocks[i], blocks[j], leaning), made(first+texts[i]+texts[j]+second))
			wantDecoded(t, free(), small().of(begin, blocks[i], leaning, blocks[j], leaning), made(first+texts[i]+second+texts[j]+second))
			// Where there are none, others don't make any.
			wantRefused(t, free(), small().of(blocks[i], blocks[j], leaning), api.ErrForm)
		}
	}
	wantRefused(t, free(), small().of(leaning), api.ErrForm)
	wantRefused(t, free(), small().of(leaning, begin), api.ErrForm)

	// Not to the next frame.
	whole := small().of(begin, leaning)
	wantRefused(t, free(), then(whole, small().of(leaning)), api.ErrForm)
	wantRefused(t, free(), then(whole, skipped(0), small().of(raw("a"), leaning)), api.ErrForm)
	wantDecoded(t, free(), then(whole, whole), decoded{b: []byte(first + second + first + second), frames: 2})
}

// Weights that are told anew take the place of those ahead.
func TestWeightsThatAreToldAnew(t *testing.T) {
	first, second := strings.Repeat("\x01\x02\x01\x03", 9), strings.Repeat("\x04\x03\x01\x04", 9)
	l, anew := weighed(first), weighed(second)
	blocks := [][]byte{packed(fresh(first, l), row()), packed(known("\x02\x03", l), row()), packed(fresh(second, anew), row()), packed(known("\x03\x04\x01", anew), row())}
	wantDecoded(t, free(), small().of(blocks...), made(first+"\x02\x03"+second+"\x03\x04\x01"))
	wantDecoded(t, free(), small().of(blocks[0], blocks[2], raw("-"), blocks[3]), made(first+second+"-\x03\x04\x01"))
	got := wantAsInWords(t, free(), small().of(blocks[2], blocks[0], blocks[3]))
	if got.is(made(second + first + "\x03\x04\x01")) {
		t.Error("the weights ahead count still")
	}
}

// again is a section of sequences, whose tables of some kinds are told to be those ahead.
func again(section []byte, kinds ...int) []byte {
	modes, behind := int(section[1]), section[2:]
	var told []byte
	for kind := range 3 {
		place := 6 - 2*kind
		_, used, err := tables.Read(kind, modes>>place&3, behind, fse.Table{})
		if err != api.OK {
			panic(err)
		}
		if slices.Contains(kinds, kind) {
			modes |= 3 << place
		} else {
			told = append(told, behind[:used]...)
		}
		behind = behind[used:]
	}
	return then(section[:1], []byte{byte(modes)}, told, behind)
}

// rows are sequences that are told by tables of each mode, which copy from no further than 9 ahead, with how many literals they have.
func rows() map[string][]api.Sequence {
	var told []api.Sequence
	for i := range uint32(60) {
		told = append(told, from(1+i%3%2, 3+i%5%3, 1+i%7))
	}
	return map[string][]api.Sequence{
		"single": {from(1, 4, 6), from(1, 4, 6), from(1, 4, 6)},
		"few":    {from(1, 4, 6), from(2, 5, 1)},
		"told":   told,
	}
}

// literalsOf are as many literals as sequences have, and 2 more.
func literalsOf(l []api.Sequence) string {
	n := 2
	for _, s := range l {
		n += int(s.Literals)
	}
	return strings.Repeat("lighterman", n)[:n]
}

// doneBehind is what sequences make of literals behind a text, where each of their offsets is told anew.
func doneBehind(text, literals string, l []api.Sequence) string {
	all := []byte(text)
	for _, s := range l {
		all = append(all, literals[:s.Literals]...)
		literals = literals[s.Literals:]
		for range s.Match {
			all = append(all, all[len(all)-int(s.Offset-3)])
		}
	}
	return string(all) + literals
}

func TestTablesGoOn(t *testing.T) {
	blocks, texts := between()
	seen := map[byte]bool{} // the modes
	for name, l := range rows() {
		section, text := row(l...), literalsOf(l)
		for kind := range 3 {
			seen[section[1]>>(6-2*kind)&3] = true
		}
		ahead := "abcdefghi"
		once := doneBehind(ahead, text, l)
		begin := packed(plain(text), section)
		for _, kinds := range [][]int{{0}, {1}, {2}, {0, 1}, {0, 2}, {1, 2}, {0, 1, 2}} {
			leaning := packed(plain(text), again(section, kinds...))
			twice := doneBehind(once, text, l)
			wantDecoded(t, free(), small().of(raw(ahead), begin, leaning), made(twice))
			wantDecoded(t, free(), small().of(raw(ahead), begin, leaning, leaning), made(doneBehind(twice, text, l)))
			for i := range blocks {
				wantDecoded(t, free(), small().of(raw(ahead), begin, blocks[i], leaning), made(doneBehind(once+texts[i], text, l)))
				wantDecoded(t, free(), small().of(raw(ahead), begin, blocks[i], blocks[len(blocks)-1-i], leaning), made(doneBehind(once+texts[i]+texts[len(blocks)-1-i], text, l)))
				wantRefused(t, free(), small().of(raw(ahead), blocks[i], leaning), api.ErrForm)
			}
			wantRefused(t, free(), small().of(raw(ahead), leaning), api.ErrForm)
			wantRefused(t, free(), small().of(raw(ahead), leaning, begin), api.ErrForm)
			// Not to the next frame.
			whole := small().of(raw(ahead), begin, leaning)
			wantRefused(t, free(), then(whole, small().of(raw(ahead), leaning)), api.ErrForm)
			wantRefused(t, free(), then(whole, skipped(9, 9), small().of(raw(ahead), leaning)), api.ErrForm)
			wantDecoded(t, free(), then(whole, whole), decoded{b: []byte(twice + twice), frames: 2})
		}
		if len(section) < 4 {
			t.Errorf("%s: %x", name, section)
		}
	}
	for _, mode := range []byte{tables.Given, tables.Single, tables.Told} {
		if !seen[mode] {
			t.Errorf("no tables of mode %d", mode)
		}
	}
}

// Tables that are told anew take the place of those ahead, each for its kind.
func TestTablesThatAreToldAnew(t *testing.T) {
	single := func(literals, match, offset uint32) ([]byte, []byte, []api.Sequence) {
		l := []api.Sequence{from(literals, match, offset)}
		return packed(plain(literalsOf(l)), row(l...)), row(l...), l
	}
	one, _, first := single(1, 4, 5)
	two, section, second := single(2, 6, 1)
	ahead := "abcdefghi"
	text := doneBehind(doneBehind(ahead, literalsOf(first), first), literalsOf(second), second)
	for _, kinds := range [][]int{{0}, {1}, {2}, {0, 1, 2}} {
		leaning := packed(plain(literalsOf(second)), again(section, kinds...))
		wantDecoded(t, free(), small().of(raw(ahead), one, two, leaning), made(doneBehind(text, literalsOf(second), second)))
		got := wantAsInWords(t, free(), small().of(raw(ahead), two, one, leaning))
		if got.is(made(doneBehind(doneBehind(doneBehind(ahead, literalsOf(second), second), literalsOf(first), first), literalsOf(second), second))) {
			t.Errorf("kinds %d: the tables ahead count still", kinds)
		}
	}
}

// The first offsets are 1, 4, 8.
func TestFirstOffsets(t *testing.T) {
	ahead := "abcdefghi"
	for _, c := range []struct {
		s    api.Sequence
		text string // of the literals xy
		err  api.Errno
	}{
		{s: repeated(1, 3, 1), text: "xxxxy"},
		{s: repeated(1, 3, 2), text: "xghiy"},
		{s: repeated(1, 3, 3), text: "xcdey"},
		{s: repeated(0, 3, 1), text: "fghxy"},
		{s: repeated(0, 3, 2), text: "bcdxy"},
		{s: repeated(0, 3, 3), err: api.ErrOffset},
	} {
		x := packed(plain("xy"), row(c.s))
		want := made(ahead + c.text)
		if c.err != api.OK {
			want = refusal(c.err)
		}
		wantDecoded(t, free(), small().of(raw(ahead), x), want)
		wantDecoded(t, free(), small().of(raw(ahead[:4]), packed(plain(ahead[4:]), row()), x), want)
		// Of each frame anew.
		other := small().of(raw("0123456789"), packed(plain(""), row(from(0, 3, 9), from(0, 3, 7), from(0, 3, 6))))
		makes := string(free().inWords(other).b)
		if c.err == api.OK {
			want = decoded{b: []byte(makes + ahead + c.text), frames: 2}
		}
		wantDecoded(t, free(), then(other, small().of(raw(ahead), x)), want)
	}
}

func TestOffsetsGoOn(t *testing.T) {
	ahead := "abcdefghijklmnopqrst"
	begin := packed(plain(""), row(from(0, 3, 20), from(0, 3, 11), from(0, 3, 5)))
	text := ahead + "abc" + "mno" + "bcm" // the offsets are 5, 11, 20 then
	blocks, texts := between()
	for i := range blocks {
		so := text + texts[i]
		back := func(n int) string { return so[len(so)-n:][:3] }
		for _, c := range []struct {
			s api.Sequence
			n int
		}{
			{repeated(0, 3, 1), 11},
			{repeated(0, 3, 2), 20},
			{repeated(0, 3, 3), 4},
			{repeated(1, 3, 1), 4}, // from behind its literal
			{repeated(1, 3, 2), 10},
			{repeated(1, 3, 3), 19},
		} {
			literal := ""
			if c.s.Literals == 1 {
				literal = "L"
			}
			x := packed(plain(literal), row(c.s))
			wantDecoded(t, free(), small().of(raw(ahead), begin, blocks[i], x), made(so+literal+back(c.n)))
		}
	}
	// From block to block they move on.
	swap := packed(plain(""), row(repeated(0, 3, 1))) // the second one comes first
	so := text
	for n := range 5 {
		blocks := [][]byte{raw(ahead), begin}
		for range n {
			blocks = append(blocks, swap)
		}
		if n > 0 {
			far := []int{11, 5}[(n-1)%2]
			so += so[len(so)-far:][:3]
		}
		wantDecoded(t, free(), small().of(blocks...), made(so))
	}
}

// P16.1: how far copies reach

func TestCopiesReachIntoEarlierBlocks(t *testing.T) {
	blocks := [][]byte{raw("abcdef"), same('g', 5), packed(plain("hijk"), row(from(4, 3, 4))), raw("lm")}
	text := "abcdef" + "ggggg" + "hijkhij" + "lm"
	for n := 1; n <= len(text); n++ {
		so := []byte(text)
		for range 4 {
			so = append(so, so[len(so)-n])
		}
		x := packed(plain(""), row(from(0, 4, uint32(n))))
		wantDecoded(t, free(), small().of(append(slices.Clone(blocks), x)...), made(string(so)))
		wantDecoded(t, free(), segment(uint64(len(so))).of(append(slices.Clone(blocks), x)...), made(string(so)))
		x = packed(plain("yz"), row(from(1, 3, uint32(n+1))))
		so = append([]byte(text), 'y')
		for range 3 {
			so = append(so, so[len(so)-n-1])
		}
		wantDecoded(t, free(), small().of(append(slices.Clone(blocks), x)...), made(string(so)+"z"))
	}
	// Beyond the first byte there is nothing, also where the window is wide.
	for _, h := range []head{small(), ofWindow(96), segment(uint64(len(text) + 3))} {
		for _, n := range []uint32{1, 2, 100, 1 << 20} {
			beyond := uint32(len(text)) + n
			wantRefused(t, free(), h.of(append(slices.Clone(blocks), packed(plain(""), row(from(0, 3, beyond))))...), api.ErrOffset)
			wantRefused(t, free(), h.of(append(slices.Clone(blocks), packed(plain("y"), row(from(1, 3, beyond+1))))...), api.ErrOffset)
		}
	}
}

func TestCopiesNeverReachIntoOtherFrames(t *testing.T) {
	first := small().of(raw(strings.Repeat("abcdefgh", 100)))
	for _, ahead := range [][]byte{first, then(first, first), then(first, skipped(3, each(99, 'x')...)), then(segment(2).withSum().of(raw("ab")), sumOf("ab"))} {
		for _, n := range []uint32{1, 2, 8, 9, 100, 800} {
			wantRefused(t, free(), then(ahead, small().of(packed(plain(""), row(from(0, 3, n))))), api.ErrOffset)
			wantRefused(t, free(), then(ahead, small().of(packed(plain("yz"), row(from(2, 3, n+2))))), api.ErrOffset)
			wantRefused(t, free(), then(ahead, ofWindow(96).of(raw("yz"), packed(plain(""), row(from(0, 3, n+2))))), api.ErrOffset)
		}
		got := wantAsInWords(t, free(), then(ahead, small().of(packed(plain("yz"), row(from(2, 3, 2))))))
		if !strings.HasSuffix(string(got.b), "yzyzy") || got.err != api.OK {
			t.Errorf("within its own frame: %v", got)
		}
	}
}

func TestCopiesReachNoFurtherThanTheWindow(t *testing.T) {
	for _, c := range []struct {
		w      byte
		window int
	}{{0, 1024}, {1, 1152}, {15, 3840}, {56, 131072}, {57, 147456}, {64, 262144}, {88, 2097152}} {
		h := ofWindow(c.w)
		var blocks [][]byte
		var text strings.Builder
		for i := 0; text.Len() < c.window+5; i++ { // more than may be copied from
			n := boundOf(c.window)
			blocks = append(blocks, same(byte('a'+i%26), n), raw(string(rune('A'+i%26))))
			text.Write(each(n, byte('a'+i%26)))
			text.WriteByte(byte('A' + i%26))
		}
		so := text.String()
		for _, n := range []int{1, 2, 3, 1000, c.window - 1, c.window} {
			x := packed(plain("yz"), row(from(2, 3, uint32(n))))
			all := []byte(so + "yz")
			for range 3 {
				all = append(all, all[len(all)-n])
			}
			wantDecoded(t, free(), h.of(append(slices.Clone(blocks), x)...), made(string(all)))
			wantDecoded(t, free(), h.of(append(slices.Clone(blocks), x, raw("end"))...), made(string(all)+"end"))
		}
		for _, n := range []int{c.window + 1, c.window + 2, c.window + 3, c.window + 5} {
			x := packed(plain("yz"), row(from(2, 3, uint32(n))))
			wantRefused(t, free(), h.of(append(slices.Clone(blocks), x)...), api.ErrOffset)
			x = packed(plain("yz"), row(from(0, 3, uint32(n))))
			wantRefused(t, free(), h.of(append(slices.Clone(blocks), x)...), api.ErrOffset)
			// Also within a block's own bytes.
			x = packed(must(literals.Same('v', 100)), row(from(100, 3, 50), from(0, 3, uint32(n))))
			wantRefused(t, free(), h.of(append(slices.Clone(blocks), x)...), api.ErrOffset)
		}
	}
}
