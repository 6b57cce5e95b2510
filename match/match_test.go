package match_test

import (
	"fmt"
	"math"
	"slices"
	"testing"

	"lighterman/api"
	"lighterman/execute"
	"lighterman/match"
	"lighterman/sequences"
)

func ExampleFind() {
	b := []byte("one two one two one, three")
	l, behind, err := match.Find(b, 0, len(b), 6)
	fmt.Println(l, behind, err == api.OK)
	l, behind, err = match.Find(b, 8, 17, 6) // of the bytes from 8 on, below 17
	fmt.Println(l, behind, err == api.OK)
	// Output:
	// [{8 11 8}] 7 true
	// [{0 9 8}] 0 true
}

// What all others lean on: what is no plan is told.
func TestWhatIsNoPlan(t *testing.T) {
	p := part{"abcabcabcaxyz", 3, 10}
	for _, c := range []struct {
		a     plan
		fault string
	}{
		{planOf(7), ""},
		{planOf(0, api.Sequence{Literals: 0, Match: 7, Offset: 3}), ""},
		{planOf(1, api.Sequence{Literals: 3, Match: 3, Offset: 6}), ""},
		{planOf(0, api.Sequence{Literals: 0, Match: 3, Offset: 3}, api.Sequence{Literals: 0, Match: 4, Offset: 3}), ""},
		{plan{err: api.ErrArg}, "an error"},
		{planOf(6), "not just the part"},
		{planOf(8), "not just the part"},
		{planOf(-1, api.Sequence{Literals: 0, Match: 7, Offset: 3}), "not just the part"},
		{planOf(0, api.Sequence{Literals: 0, Match: 6, Offset: 3}), "not just the part"},
		{planOf(0, api.Sequence{Literals: 8, Match: 3, Offset: 3}), "sequence 0: more literals than are left"},
		{planOf(5, api.Sequence{Literals: 0, Match: 2, Offset: 3}), "sequence 0: Match below 3"},
		{planOf(0, api.Sequence{Literals: 0, Match: 7, Offset: 3}, api.Sequence{}), "sequence 1: Match below 3"},
		{planOf(0, api.Sequence{Literals: 0, Match: 131075, Offset: 3}), "sequence 0: Match above 131074"},
		{planOf(0, api.Sequence{Literals: 0, Match: 8, Offset: 3}), "sequence 0: beyond to"},
		{planOf(0, api.Sequence{Literals: 1, Match: 7, Offset: 3}), "sequence 0: beyond to"},
		{planOf(0, api.Sequence{Literals: 4, Match: 3, Offset: 0}), "sequence 0: Offset below 1"},
		{planOf(4, api.Sequence{Literals: 0, Match: 3, Offset: 4}), "sequence 0: from ahead of all bytes"},
		{planOf(4, api.Sequence{Literals: 0, Match: 3, Offset: 2}), "sequence 0: other bytes"},
		{planOf(1, api.Sequence{Literals: 3, Match: 3, Offset: 5}), "sequence 0: other bytes"},
	} {
		if fault := faultOf(p, c.a); fault != c.fault {
			t.Errorf("%v: %q; want %q", c.a, fault, c.fault)
		}
	}
}

// P17.1: what may not be

func TestFromAndToThatMayNotBe(t *testing.T) {
	const lowest, highest = math.MinInt, math.MaxInt
	for _, b := range []string{"", "a", "aaaaaaaaaaaa", "abcdefghabcdefgh", unlike(chance(1), 1000)} {
		n := len(b)
		for _, level := range []int{0, 1, 4, 9} {
			for _, c := range [][2]int{
				{-1, n}, {-1, 0}, {-1, -1}, {-n - 1, 0}, {lowest, n}, {lowest, 0}, {lowest, lowest}, {lowest, highest}, // from below 0
				{1, 0}, {n + 1, n}, {n, n - 1}, {n / 2, n/2 - 1}, {highest, 0}, {highest, n}, {0, -1}, {0, lowest}, {highest, lowest}, // above to
				{0, n + 1}, {n, n + 1}, {n + 1, n + 1}, {n / 2, n + 1}, {0, highest}, {n, highest}, {highest, highest}, {highest - 1, highest}, // to above b
			} {
				wantErrArg(t, part{b, c[0], c[1]}, level)
			}
			for _, c := range [][2]int{{0, n}, {n, n}, {0, 0}, {n / 2, n / 2}, {n / 2, n}, {0, n / 2}} {
				wantPlan(t, part{b, c[0], c[1]}, level)
			}
		}
	}
}

func TestLevelsThatMayNotBe(t *testing.T) {
	for _, b := range []string{"", "a", "aaaaaaaaaaaa", "abcdefghabcdefgh"} {
		for _, level := range []int{math.MinInt, math.MinInt32, -10, -9, -2, -1, 10, 11, 100, 256, 1 << 32, math.MaxInt} {
			wantErrArg(t, whole(b), level)
			wantErrArg(t, part{b, len(b), len(b)}, level)
			wantErrArg(t, part{b, 0, 0}, level)
			wantErrArg(t, part{b, 1, 0}, level)
		}
		wantPlans(t, whole(b))
	}
}

// Room behind b isn't b's.
func TestRoomBehindIsNone(t *testing.T) {
	b := []byte("aaaaaaaaaaaaaaaaaaaa")[:10]
	for level := range mostLevel + 1 {
		if got := find(b, part{from: 0, to: 11}, level); got.err != api.ErrArg || len(got.l) > 0 || got.behind != 0 {
			t.Error(level, got)
		}
		if got := find(b, part{from: 0, to: 10}, level); faultOf(whole("aaaaaaaaaa"), got) != "" {
			t.Error(level, got)
		}
	}
}

// P17.1: no bytes, and few

func TestNoBytes(t *testing.T) {
	for level := range mostLevel + 1 {
		if l, n, err := match.Find(nil, 0, 0, level); len(l) > 0 || n != 0 || err != api.OK {
			t.Error(level, l, n, err)
		}
		for _, b := range []string{"", "a", "aaaaaaaaaaaaaaaa", "abcdabcdabcdabcd", unlike(chance(2), 500) + "aaaa"} {
			for _, at := range []int{0, 1, len(b) / 2, len(b) - 1, len(b)} {
				if at < 0 || at > len(b) {
					continue
				}
				if got := wantPlan(t, part{b, at, at}, level); len(got.l) > 0 || got.behind != 0 {
					t.Errorf("of none from %d, level %d: %v", at, level, got)
				}
			}
		}
	}
}

func TestLevelNoughtCopiesNothing(t *testing.T) {
	if l, n, err := match.Find(make([]byte, 9), 0, 9, 0); len(l) > 0 || n != 9 || err != api.OK {
		t.Error(l, n, err)
	}
	for _, b := range []string{each(300000, 'a'), "abcdefghabcdefgh", words(chance(3), 5000)} {
		for _, p := range []part{whole(b), behind(b, 5), {b, 3, 12}, {b, 0, 1}} {
			if got := wantPlan(t, p, 0); !got.is(planOf(p.to - p.from)) {
				t.Errorf("%v: %v", p, got)
			}
		}
	}
}

// All parts of all texts of two kinds of bytes, up to twelve of them.
func TestFewBytes(t *testing.T) {
	most := 12
	if testing.Short() {
		most = 8
	}
	for n := range most + 1 {
		for x := range 1 << n {
			b := make([]byte, n)
			for i := range b {
				b[i] = 'a' + byte(x>>i&1)
			}
			for from := range n + 1 {
				for to := from; to <= n; to++ {
					p := part{string(b), from, to}
					for level := range mostLevel + 1 {
						if got := find(b, p, level); faultOf(p, got) != "" {
							t.Fatalf("%v of level %d: %v: %s", p, level, got, faultOf(p, got))
						}
					}
				}
			}
		}
	}
}

// Parts of 1 to 12 bytes, anywhere.
func TestShortParts(t *testing.T) {
	c := chance(4)
	for _, b := range []string{each(40, 'a'), "abcabcabcabcabcabcabc", few(c, 60, 2), few(c, 60, 3), words(c, 200), then("xy", each(12, 'a'), "zz", each(12, 'a'))} {
		for n := 1; n <= 12; n++ {
			for from := range len(b) - n + 1 {
				wantPlans(t, part{b, from, from + n})
			}
		}
	}
}

// P17.1: ordinary bytes

func TestBytesOfManyKinds(t *testing.T) {
	c := chance(5)
	for _, b := range []string{
		unlike(c, 3000), few(c, 3000, 256), few(c, 3000, 2), few(c, 3000, 3), few(c, 3000, 10), words(c, 3000),
		each(3000, 0), each(1500, 'a') + each(1500, 'b'), few(c, 70000, 5), words(c, 140000), unlike(c, 20000),
	} {
		n := len(b)
		for _, p := range []part{whole(b), behind(b, n/2), {b, 0, n / 2}, {b, n / 3, n / 2}, behind(b, n-1), {b, n / 2, n/2 + 9}} {
			wantPlans(t, p)
		}
	}
}

// Bytes that stand twice, and three times.
func TestBytesThatStandAgain(t *testing.T) {
	c := chance(6)
	for _, n := range []int{3, 4, 5, 8, 20, 100, 1000, 5000} {
		x, y, z := unlike(c, n), unlike(c, n), unlike(c, 40)
		wantPlans(t, whole(then(x, x)))
		wantPlans(t, whole(then(x, x, x)))
		wantPlans(t, whole(then(x, y, x)))
		wantPlans(t, whole(then(x, y, x, y, x)))
		wantPlans(t, whole(then(z, x, z, x, z)))
		wantPlans(t, whole(then(x, z, x[:n/2], z[:9], x[n/2:])))
		wantPlans(t, behind(then(x, y, x), n))
		wantPlans(t, behind(then(x, y, x), 2*n))
		wantPlans(t, behind(then(x, y, x), 2*n+1))
		wantPlans(t, part{then(x, y, x, y), 2*n - 1, 3*n + 1})
	}
}

// At just the distance: what stands so far ahead is copied from there, and from nowhere else.
func TestDistances(t *testing.T) {
	c := chance(7)
	x := unlike(c, 30)
	for _, d := range []int{30, 31, 32, 40, 100, 255, 256, 257, 1000, 4096, 16383, 16384, 16385, 65535, 65536, 65537, 131071, 131072, 131073, 200000} {
		between := x + each(d-30, 0xFF)
		if d == 30 {
			between = x
		}
		p := behind(between+x, d)
		wantJust(t, p, planOf(0, api.Sequence{Literals: 0, Match: 30, Offset: uint32(d)}))
		p = behind("ahead"+between+"!"+x, d+6)
		wantJust(t, p, planOf(0, api.Sequence{Literals: 0, Match: 30, Offset: uint32(d + 1)}))
	}
}

// However far behind b's beginning a part stands.
func TestPartsFarBehind(t *testing.T) {
	c := chance(23)
	x := unlike(c, 60)
	near := then(x, "!", each(9, 'a'), "?", x, x)
	want := planOf(0, api.Sequence{Match: 60, Offset: 71}, api.Sequence{Match: 60, Offset: 60})
	for _, log := range []int{16, 17, 18, 19, 20, 21, 22} {
		for _, ahead := range []int{1<<log - 72, 1<<log - 71, 1<<log - 70, 1 << log, 1<<log + 1, 1<<log + 99} {
			if testing.Short() && log > 18 {
				continue
			}
			p := behind(each(ahead, 0xFF)+near, ahead+71)
			for _, level := range []int{1, 2, 3, 4, 5, 9} {
				got := find([]byte(p.b), p, level)
				if fault := faultOf(p, got); fault != "" || !got.is(want) {
					t.Errorf("%v of level %d: %v %s; want %v", p, level, got, fault, want)
				}
			}
		}
	}
}

func TestNearAndFar(t *testing.T) {
	c := chance(8)
	x, y := unlike(c, 400), few(c, 300, 3)
	var b string
	for _, n := range []int{0, 1, 10, 100, 1000, 10000, 100000} {
		b = then(b, x, few(c, n, 256), y, x[3:50], y[7:60])
		wantPlans(t, whole(b))
		wantPlans(t, behind(b, len(b)/2))
		wantPlans(t, behind(b, len(b)-400))
	}
}

// P17.1, P17.3: where is copied from

// From ahead of the part, down to b's very first byte.
func TestFromTheFirstByte(t *testing.T) {
	c := chance(9)
	for _, n := range []int{8, 9, 30, 200, 5000, 130000} {
		x := unlike(c, n)
		wantJust(t, behind(then(x, x), n), planOf(0, api.Sequence{Match: uint32(n), Offset: uint32(n)}))
		wantJust(t, whole(then(x, x)), planOf(0, api.Sequence{Literals: uint32(n), Match: uint32(n), Offset: uint32(n)}))
		y := each(50, x[0]^1)
		wantJust(t, behind(then(x, y, x), n+50), planOf(0, api.Sequence{Match: uint32(n), Offset: uint32(n + 50)}))
		wantJust(t, behind(then(x, x[:8]), n), planOf(0, api.Sequence{Match: 8, Offset: uint32(n)}))
		wantJust(t, behind(then("?", x, "?", x), n+2), planOf(0, api.Sequence{Match: uint32(n), Offset: uint32(n + 1)}))
	}
}

// Never from ahead of it: where b begins as it goes on there.
func TestNothingAheadOfTheFirstByte(t *testing.T) {
	memory := []byte(then("abcdefgh", each(20, 'x'), "abcdefghabcdefgh", each(20, 'x'), "abcdefgh"))
	for cut := range len(memory) {
		b := memory[cut:]
		for from := range len(b) + 1 {
			p := behind(string(b), from)
			for level := range mostLevel + 1 {
				if got := find(b, p, level); faultOf(p, got) != "" {
					t.Fatalf("%v of level %d: %v: %s", p, level, got, faultOf(p, got))
				}
			}
		}
	}
}

// No sequence reaches beyond to, though the same bytes go on behind it.
func TestNothingBeyondTo(t *testing.T) {
	c := chance(10)
	x := unlike(c, 60)
	for n := range 61 {
		wantPlans(t, part{then(x, x), 60, 60 + n})
		wantPlans(t, part{then(x, x, x), 0, 60 + n})
		wantPlans(t, part{each(200, 'a'), 0, n})
		wantPlans(t, part{each(200, 'a'), 100, 100 + n})
		wantPlans(t, part{then(x, "1", x, "2", x), 61, 61 + n})
		if n >= 8 {
			wantJust(t, part{then(x, x), 60, 60 + n}, planOf(0, api.Sequence{Match: uint32(n), Offset: 60}))
		}
	}
}

// What stands behind to changes nothing that is promised, nor what is answered.
func TestWhatStandsBehindTo(t *testing.T) {
	c := chance(11)
	for range 50 {
		b := few(c, 100+c.IntN(100), 3)
		from := c.IntN(len(b) + 1)
		for level := range mostLevel + 1 {
			alone := wantPlan(t, behind(b, from), level)
			for _, more := range []string{"a", each(50, b[0]), b, few(c, 30, 3)} {
				if got := wantPlan(t, part{b + more, from, len(b)}, level); !got.is(alone) {
					t.Errorf("%q from %d, level %d, with %q behind: %v; alone %v", b, from, level, more, got, alone)
				}
			}
		}
	}
}

// P17.1: the longest Match

func TestMatchIsNeverTooLong(t *testing.T) {
	levels := []int{0, 1, 2, 3, 4, 5, 6, 7, 8, 9}
	if testing.Short() {
		levels = []int{1, 9}
	}
	for _, n := range []int{mostMatch - 1, mostMatch, mostMatch + 1, mostMatch + 2, mostMatch + 3, mostMatch + 4, mostMatch + 5, mostMatch + 8, 200000, 2*mostMatch - 1, 2*mostMatch + 2, 400000} {
		b := each(n, 'a')
		for _, level := range levels {
			got := wantPlan(t, whole(b), level)
			if level > 0 && n > mostMatch && got.l[0].Match != mostMatch {
				t.Errorf("%d alike, level %d: %v", n, level, got)
			}
			wantPlan(t, between("b", b, "b"), level)
			wantPlan(t, between("aa", b, "aa"), level)
		}
	}
}

// Whoever copies from ahead of the part has no literal first.
func TestLongestMatchFromAhead(t *testing.T) {
	for more := range 10 {
		n := mostMatch - 3 + more
		b := each(n+1, 0)
		want := planOf(max(0, n-mostMatch), api.Sequence{Match: uint32(min(n, mostMatch)), Offset: 1})
		if more > 6 { // so many that are left are copied, too
			want = planOf(0, want.l[0], api.Sequence{Match: uint32(n - mostMatch), Offset: 1})
		}
		wantJust(t, behind(b, 1), want)
	}
}

func TestLongOnesThatStandTwice(t *testing.T) {
	c := chance(12)
	lengths, levels := []int{mostMatch - 1, mostMatch, mostMatch + 1, mostMatch + 4, 200000}, []int{1, 4, 9}
	if testing.Short() {
		lengths, levels = lengths[4:], levels[:1]
	}
	for _, n := range lengths {
		x := few(c, n, 256)
		for _, level := range levels {
			wantPlan(t, behind(then(x, x), n), level)
			wantPlan(t, whole(then(x, "!", x, "!", x)), level)
		}
	}
	x := unlike(c, mostMatch+100)
	wantJust(t, behind(then(x, x), len(x)), planOf(0, api.Sequence{Match: mostMatch, Offset: mostMatch + 100}, api.Sequence{Match: 100, Offset: mostMatch + 100}))
}

// P17.1, P17.3: copies of every form

// Copies that reach into themselves: Offset less than Match.
func TestCopiesIntoThemselves(t *testing.T) {
	c := chance(13)
	for period := 1; period <= 40; period++ {
		x := unlike(c, period)
		for _, times := range []int{8, 9, 50} {
			var b string
			for range times {
				b += x
			}
			n := uint32(len(b))
			wantJust(t, whole(b), planOf(0, api.Sequence{Literals: uint32(period), Match: n - uint32(period), Offset: uint32(period)}))
			wantPlans(t, whole(b[:len(b)-1]))
			wantPlans(t, behind(b, 1))
			wantJust(t, behind(b, period), planOf(0, api.Sequence{Match: n - uint32(period), Offset: uint32(period)}))
		}
	}
}

// Copies one behind the other, with no literals between.
func TestNoLiteralsBetween(t *testing.T) {
	c := chance(14)
	for _, n := range []int{8, 20, 300} {
		all := unlike(c, 4*n)
		x, y, z := all[:n], all[n:2*n], all[3*n:]
		m := uint32(n)
		b := then(x, y, z, y, x, z)
		wantJust(t, behind(b, 3*n), planOf(0, api.Sequence{Match: m, Offset: 2 * m}, api.Sequence{Match: m, Offset: 4 * m}, api.Sequence{Match: m, Offset: 3 * m}))
		wantJust(t, behind(b+"??", 3*n), planOf(2, api.Sequence{Match: m, Offset: 2 * m}, api.Sequence{Match: m, Offset: 4 * m}, api.Sequence{Match: m, Offset: 3 * m}))
	}
}

func TestHowManyStandBehind(t *testing.T) {
	c := chance(15)
	all := unlike(c, 300)
	x, y := all[:50], all[50:]
	for n := range 200 {
		want := planOf(n, api.Sequence{Match: 50, Offset: 50})
		wantJust(t, behind(then(x, x, y[:n]), 50), want)
		wantJust(t, part{then(x, x, y), 50, 100 + n}, want)
	}
}

// P17.2

func TestBytesThatAreAlike(t *testing.T) {
	for _, value := range []byte{0, 1, 7, 'a', 127, 128, 254, 255} {
		other := string([]byte{value ^ 1})
		for _, n := range []int{7, 8, 9, 10, 11, 12, 13, 15, 16, 17, 31, 32, 33, 64, 100, 1000} {
			b := each(n, value)
			for _, p := range []part{
				whole(b), between("", b, other), between("", b, b),
				between(other, b, ""), between(other, b, other), between(each(9, value^1), b, each(9, value^1)),
				between(b, b, ""), between(b, b, b), between(b+other, b, other+b), between(each(4, value), b, each(4, value)),
				between("some text", b, "some text"), between(unlike(chance(16), 3000), b, ""),
			} {
				for level := range mostLevel + 1 {
					got := wantPlan(t, p, level)
					if level > 0 && n >= 8 && len(got.l) == 0 {
						t.Errorf("%v of level %d, %d of %d alike: no sequence", p, level, n, value)
					}
				}
			}
		}
	}
}

// All of 8 bytes that are alike, wherever they stand.
func TestEightAlikeAtEachPlace(t *testing.T) {
	for value := range 256 {
		for from := range 40 {
			b := each(from, byte(value+1)) + each(8, byte(value)) + each(40-from, byte(value+2))
			p := part{b, from, from + 8}
			for level := range mostLevel {
				got := find([]byte(b), p, level+1)
				if fault := faultOf(p, got); fault != "" || len(got.l) == 0 {
					t.Fatalf("%v of level %d: %v %s", p, level+1, got, fault)
				}
			}
		}
	}
}

// P17.3: whoever does a plan has the bytes again

// done are the bytes that a plan makes behind those ahead of the part, by layer 14.
func done(t *testing.T, p part, a plan) string {
	t.Helper()
	var literals []byte
	var told []api.Sequence
	at, r := p.from, execute.First()
	for _, s := range a.l {
		literals = append(literals, p.b[at:at+int(s.Literals)]...)
		at += int(s.Literals + s.Match)
		o, next := execute.Tell(r, s.Literals, s.Offset)
		told, r = append(told, api.Sequence{Literals: s.Literals, Match: s.Match, Offset: o}), next
	}
	literals = append(literals, p.b[at:at+a.behind]...)
	if p.to-p.from <= api.MaxBlock {
		section, err := sequences.Write(told)
		if err != api.OK {
			t.Errorf("%v: its sequences can't be told", p)
		}
		again, _, err := sequences.Read(section, sequences.Tables{})
		if err != api.OK || !slices.Equal(again, told) {
			t.Errorf("%v: its sequences are told otherwise", p)
		}
	}
	all, _, err := execute.Run([]byte(p.b[:p.from]), literals, told, execute.First(), 1<<api.MaxLog, p.to-p.from)
	if err != api.OK {
		t.Errorf("%v: error %d", p, int(err))
	}
	return string(all)
}

func TestPlansThatAreDone(t *testing.T) {
	if testing.Short() {
		t.Skip("takes seconds")
	}
	c := chance(17)
	for _, b := range []string{
		each(400000, 'a'), words(c, 200000), few(c, 150000, 2), few(c, 150000, 4), unlike(c, 20000), then(words(c, 1000), each(140000, 'z'), words(c, 1000)),
	} {
		n := len(b)
		for _, p := range []part{whole(b), {b, 0, min(n, api.MaxBlock)}, behind(b, n/2), {b, n / 3, n/3 + 5000}} {
			for level := range mostLevel + 1 {
				if got := done(t, p, wantPlan(t, p, level)); got != b[:p.to] {
					t.Errorf("%v of level %d: done, it makes %d other bytes", p, level, len(got))
				}
			}
		}
	}
}

// What no number promises, and what levels are for

// Of copies from near and from far the longest is taken, where it is looked at.
func TestLongestIsTaken(t *testing.T) {
	c := chance(18)
	x := unlike(c, 40)
	b := then(x, "1", x[:20], "2", x)
	for level := 2; level <= mostLevel; level++ {
		if got := wantPlan(t, behind(b, 62), level); !got.is(planOf(0, api.Sequence{Match: 40, Offset: 62})) {
			t.Error(level, got)
		}
	}
	b = then(x, "1", x, "2", x)
	wantJust(t, behind(b, 82), planOf(0, api.Sequence{Match: 40, Offset: 41})) // the nearest one
}

// The highest level waits, where a byte later there is a longer one.
func TestLongerOneAByteLater(t *testing.T) {
	p := behind("abcd?bcdefghijk!abcdefghijk", 16)
	want := planOf(0, api.Sequence{Literals: 1, Match: 10, Offset: 12})
	if got := wantPlan(t, p, mostLevel); !got.is(want) {
		t.Errorf("%v; want %v", got, want)
	}
}

// Higher levels leave fewer bytes as they are, or make fewer copies, which are taken here for three bytes each.
func TestHigherLevelsFindMore(t *testing.T) {
	c := chance(19)
	for _, b := range []string{words(c, 100000), few(c, 100000, 3), few(c, 100000, 5)} {
		cost := func(level int) int {
			a := wantPlan(t, whole(b), level)
			n := a.behind
			for _, s := range a.l {
				n += int(s.Literals) + 3
			}
			return n
		}
		ahead := cost(0)
		for _, level := range []int{1, 3, 6, 9} {
			n := cost(level)
			if n >= ahead {
				t.Errorf("%.20q, level %d: %d; of a lower one %d", b, level, n, ahead)
			}
			ahead = n
		}
	}
}

// As many bytes as a frame may make.
func TestManyBytes(t *testing.T) {
	if testing.Short() {
		t.Skip("takes seconds")
	}
	c := chance(20)
	n := 1 << 22
	all := few(c, n, 256)
	for _, b := range []string{all, all[:n/2] + all[:n/2], few(c, n, 2), each(n, 0)} {
		for _, p := range []part{whole(b), behind(b, n-api.MaxBlock)} {
			for _, level := range []int{1, 9} {
				if got := find([]byte(b), p, level); faultOf(p, got) != "" {
					t.Errorf("%v of level %d: %s", p, level, faultOf(p, got))
				}
			}
		}
	}
}
