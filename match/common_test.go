package match_test

import (
	"bytes"
	"fmt"
	"math/rand/v2"
	"slices"
	"testing"

	"lighterman/api"
	"lighterman/match"
)

// What all tests of the package make bytes with, and hold plans against.

const (
	mostLevel = 9
	mostMatch = 131074
)

// then are texts one behind the other.
func then(texts ...string) string {
	var b []byte
	for _, s := range texts {
		b = append(b, s...)
	}
	return string(b)
}

// each is a text of n times the same byte.
func each(n int, c byte) string { return string(bytes.Repeat([]byte{c}, n)) }

// chance are numbers of chance, the same ones for the same seed.
func chance(seed uint64) *rand.Rand { return rand.New(rand.NewPCG(17, seed)) }

// few are n bytes of chance, of so many kinds.
func few(c *rand.Rand, n, kinds int) string {
	b := make([]byte, n)
	for i := range b {
		b[i] = byte(c.IntN(kinds))
	}
	return string(b)
}

// unlike are n bytes of chance, none of which stand twice, four in a row.
func unlike(c *rand.Rand, n int) string {
	stood := map[string]bool{}
	b := make([]byte, 0, n)
	for len(b) < n {
		b = append(b, byte(c.IntN(256)))
		if at := len(b) - 4; at >= 0 {
			if stood[string(b[at:])] {
				b = b[:len(b)-1]
				continue
			}
			stood[string(b[at:])] = true
		}
	}
	return string(b)
}

// words are n bytes of text, of few words.
func words(c *rand.Rand, n int) string {
	var all []string
	for range 60 {
		w := few(c, 1+c.IntN(9), 26)
		all = append(all, w+string(byte(30)))
	}
	var b []byte
	for len(b) < n {
		b = append(b, all[min(c.IntN(60), c.IntN(60))]...)
	}
	return string(b[:n])
}

// part is what Find is handed, but for the level.
type part struct {
	b        string
	from, to int
}

// whole is a part that has all bytes.
func whole(b string) part { return part{b, 0, len(b)} }

// behind is a part of the bytes from a place on.
func behind(b string, from int) part { return part{b, from, len(b)} }

// between is a part with other bytes ahead of it and behind it.
func between(ahead, b, more string) part {
	return part{ahead + b + more, len(ahead), len(ahead) + len(b)}
}

func (p part) String() string {
	return fmt.Sprintf("Find(%d bytes %.60q, %d, %d)", len(p.b), p.b, p.from, p.to)
}

// plan is what Find answers.
type plan struct {
	l      []api.Sequence
	behind int
	err    api.Errno
}

func (a plan) is(b plan) bool {
	return slices.Equal(a.l, b.l) && a.behind == b.behind && a.err == b.err
}

func (a plan) String() string {
	return fmt.Sprintf("%d sequences %v, %d behind, error %d", len(a.l), a.l[:min(len(a.l), 20)], a.behind, int(a.err))
}

// planOf is a plan of such sequences.
func planOf(behind int, l ...api.Sequence) plan { return plan{l: l, behind: behind} }

// find is what Find answers to bytes.
func find(b []byte, p part, level int) plan {
	l, n, err := match.Find(b, p.from, p.to, level)
	return plan{l, n, err}
}

// faultOf is why these sequences are no plan of a part, as the chapter has it; empty, if they are one.
func faultOf(p part, a plan) string {
	if a.err != api.OK {
		return "an error"
	}
	at := p.from
	for i, s := range a.l {
		literals, n, offset := int(s.Literals), int(s.Match), int(s.Offset)
		switch {
		case literals > p.to-at:
			return fmt.Sprintf("sequence %d: more literals than are left", i)
		case n < 3:
			return fmt.Sprintf("sequence %d: Match below 3", i)
		case n > mostMatch:
			return fmt.Sprintf("sequence %d: Match above %d", i, mostMatch)
		case n > p.to-at-literals:
			return fmt.Sprintf("sequence %d: beyond to", i)
		case offset < 1:
			return fmt.Sprintf("sequence %d: Offset below 1", i)
		case offset > at+literals:
			return fmt.Sprintf("sequence %d: from ahead of all bytes", i)
		}
		at += literals
		for range n {
			if p.b[at] != p.b[at-offset] {
				return fmt.Sprintf("sequence %d: other bytes", i)
			}
			at++
		}
	}
	if a.behind != p.to-at {
		return "not just the part"
	}
	return ""
}

// wantPlan fails, unless there is a plan of a part, once more and wherever the bytes stand, and they are left as they are; it is that.
func wantPlan(t *testing.T, p part, level int) plan {
	t.Helper()
	memory := []byte(p.b + "behind all") // with room behind
	b := memory[:len(p.b)]
	got := find(b, p, level)
	if fault := faultOf(p, got); fault != "" {
		t.Errorf("%v of level %d: %v: %s", p, level, got, fault)
	}
	if level == 0 && len(got.l) > 0 {
		t.Errorf("%v of level 0: %v; want no sequence", p, got)
	}
	kept := plan{slices.Clone(got.l), got.behind, got.err}
	again := find(b, p, level)
	if !again.is(got) {
		t.Errorf("%v of level %d, once more: %v; at first %v", p, level, again, got)
	}
	if narrow := find(slices.Clip([]byte(p.b)), p, level); !narrow.is(got) {
		t.Errorf("%v of level %d, without room behind: %v; at first %v", p, level, narrow, got)
	}
	clear(again.l[:cap(again.l)])
	if string(memory) != p.b+"behind all" || !got.is(kept) {
		t.Errorf("%v of level %d: what was handed in was changed, or shares memory with the answer", p, level)
	}
	clear(memory)
	if !got.is(kept) {
		t.Errorf("%v of level %d: the answer changes with what was handed in", p, level)
	}
	return kept
}

// wantPlans fails, unless there is a plan of a part of each level.
func wantPlans(t *testing.T, p part) {
	t.Helper()
	for level := range mostLevel + 1 {
		wantPlan(t, p, level)
	}
}

// wantJust fails, unless of each level from 1 on just this is answered.
func wantJust(t *testing.T, p part, want plan) {
	t.Helper()
	if fault := faultOf(p, want); fault != "" {
		t.Fatalf("%v: %v is no plan: %s", p, want, fault)
	}
	for level := range mostLevel {
		if got := wantPlan(t, p, level+1); !got.is(want) {
			t.Errorf("%v of level %d: %v; want %v", p, level+1, got, want)
		}
	}
}

// wantErrArg fails, unless a part is refused, with nothing beside the error.
func wantErrArg(t *testing.T, p part, level int) {
	t.Helper()
	got := find([]byte(p.b), p, level)
	if got.err != api.ErrArg || len(got.l) > 0 || got.behind != 0 {
		t.Errorf("%v of level %d: %v; want ErrArg alone", p, level, got)
	}
}
