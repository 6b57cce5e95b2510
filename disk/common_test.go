package disk_test

import (
	"fmt"
	"maps"
	"math/rand/v2"
	"slices"
	"strings"
	"testing"

	"lighterman/api"
	"lighterman/disk"
)

// What all tests of the package work disks with, and the chapter's own words, which answers are held against.

const (
	mostRoom = 1 << 24
	mostName = 32
)

// chance are numbers of chance, the same ones for the same seed.
func chance(seed uint64) *rand.Rand { return rand.New(rand.NewPCG(21, seed)) }

// noise are n bytes of chance.
func noise(c *rand.Rand, n int) string {
	b := make([]byte, n)
	for i := range b {
		b[i] = byte(1 + c.IntN(255)) // no noughts, so that these are seen for what they are
	}
	return string(b)
}

// noughts are n of them.
func noughts(n int) string { return strings.Repeat("\x00", n) }

// files are bytes by their names.
type files map[string]string

// act is a call of Write, Rename, Remove or Sync.
type act struct {
	call      byte
	file, new string
	at        int
	b         string
}

func write(name string, at int, b string) act { return act{call: 'w', file: name, at: at, b: b} }
func rename(old, name string) act             { return act{call: 'n', file: old, new: name} }
func remove(name string) act                  { return act{call: 'r', file: name} }
func sync() act                               { return act{call: 's'} }

// behind are files as they are when one operation is done on them, by the chapter's Words.
func (f files) behind(a act) files {
	f = maps.Clone(f)
	switch b, there := f[a.file]; {
	case a.call == 'w':
		b += noughts(max(0, a.at-len(b)))
		end := min(len(b), a.at+len(a.b))
		f[a.file] = b[:a.at] + a.b + b[end:]
	case a.call == 'n' && there && a.new != a.file:
		f[a.new] = b
		delete(f, a.file)
	case a.call == 'r':
		delete(f, a.file)
	}
	return f
}

// size is how many bytes they all have.
func (f files) size() int {
	n := 0
	for _, b := range f {
		n += len(b)
	}
	return n
}

// words are a disk as the chapter tells of it: what is seen is worked out anew whenever it is asked for.
type words struct {
	room  int
	sure  files
	under []act
	down  bool
	stops bool
	left  int
}

// seen are the sure files behind all operations that are under way.
func (w *words) seen() files {
	f := w.sure
	for _, a := range w.under {
		f = f.behind(a)
	}
	return f
}

// wrong is the error of what is asked, as P21.2 tells them in order.
func (w *words) wrong(a act) api.Errno {
	seen := w.seen()
	b, there := seen[a.file]
	mayBe := func(name string) bool { return len(name) >= 1 && len(name) <= mostName }
	if w.down {
		return api.ErrDown
	}
	switch a.call {
	case 'w':
		if !mayBe(a.file) || a.at < 0 {
			return api.ErrArg
		}
		if a.at > len(b) {
			return api.ErrRange
		}
		if seen.behind(a).size() > w.room {
			return api.ErrSpace
		}
	case 'n':
		if !mayBe(a.file) || !mayBe(a.new) {
			return api.ErrArg
		}
		if !there {
			return api.ErrNone
		}
	case 'r':
		if !there {
			return api.ErrNone
		}
	}
	return api.OK
}

// do is what P21.2 and P21.3 say of a call.
func (w *words) do(a act) api.Errno {
	if err := w.wrong(a); err != api.OK {
		return err
	}
	if w.stops && w.left == 0 {
		w.down = true
		return api.ErrDown
	}
	w.left--
	w.under = append(w.under, a)
	if a.call == 's' {
		w.sure, w.under = w.seen(), nil
	}
	return api.OK
}

// crash is what P21.3 says of Crash.
func (w *words) crash(keep []bool) {
	for k, a := range w.under {
		if k < len(keep) && keep[k] {
			w.sure = w.sure.behind(a)
		}
	}
	w.under, w.down, w.stops = nil, false, false
}

// both are a disk, and the words of it.
type both struct {
	t *testing.T
	d *disk.Disk
	w *words
	// names that a file had, or was asked for by, at any time
	names map[string]int
	acts  []string
}

// begun are both, with room for so many bytes.
func begun(t *testing.T, room int) *both {
	t.Helper()
	d, err := disk.New(room)
	if err != api.OK || d == nil {
		t.Fatalf("New of %d: error %d", room, int(err))
	}
	x := &both{t: t, d: d, w: &words{room: room, sure: files{}}, names: map[string]int{"": 0, "other": 0}}
	x.same()
	return x
}

// asked asks the disk for a call, and changes what it was handed then.
func asked(t *testing.T, d *disk.Disk, a act) api.Errno {
	t.Helper()
	switch a.call {
	case 'w':
		memory := []byte(a.b + "behind")
		err := d.Write(a.file, a.at, memory[:len(a.b)])
		if string(memory) != a.b+"behind" {
			t.Errorf("Write of %.20q changes them", a.b)
		}
		for i := range memory {
			memory[i] ^= 255
		}
		return err
	case 'n':
		return d.Rename(a.file, a.new)
	case 'r':
		return d.Remove(a.file)
	}
	return d.Sync()
}

// do asks for calls, one behind the other, and fails, unless each answers as the words say.
func (x *both) do(acts ...act) {
	x.t.Helper()
	for _, a := range acts {
		x.want(a, x.w.do(a))
	}
}

// wrong asks for a call, and fails, unless it answers this error, by the words too.
func (x *both) wrong(a act, want api.Errno) {
	x.t.Helper()
	if err := x.w.do(a); err != want {
		x.t.Errorf("%s: error %d is wanted, error %d is promised", tell(a), int(want), int(err))
	}
	x.want(a, want)
}

// want asks for a call, and fails, unless it answers this error, and all that is asked afterwards is as the words say.
func (x *both) want(a act, want api.Errno) {
	x.t.Helper()
	x.names[a.file], x.names[a.new] = 0, 0
	x.acts = append(x.acts, tell(a))
	if err := asked(x.t, x.d, a); err != want {
		x.t.Errorf("behind %v: error %d, want error %d", x.acts, int(err), int(want))
	}
	x.same()
}

// stop lets it stop after so many calls more.
func (x *both) stop(after int) {
	x.t.Helper()
	x.acts = append(x.acts, "Stop")
	x.w.stops, x.w.left = after >= 0, after
	x.d.Stop(after)
	x.same()
}

// crash lets it begin anew.
func (x *both) crash(keep ...bool) {
	x.t.Helper()
	x.acts = append(x.acts, "Crash")
	x.w.crash(keep)
	handed := slices.Clone(keep)
	x.d.Crash(handed)
	if !slices.Equal(handed, keep) {
		x.t.Errorf("Crash of %v makes %v of them", keep, handed)
	}
	for i := range handed {
		handed[i] = !handed[i]
	}
	x.same()
}

// same fails, unless what Read, Names and Pending answer is as the words say, in new memory.
func (x *both) same() {
	x.t.Helper()
	seen := x.w.seen()
	for range 2 {
		if n := x.d.Pending(); n != len(x.w.under) {
			x.t.Errorf("behind %v: %d under way, want %d", x.acts, n, len(x.w.under))
		}
		names := x.d.Names()
		if want := slices.Sorted(maps.Keys(seen)); !slices.Equal(names, want) {
			x.t.Errorf("behind %v: files %.200q, want %.200q", x.acts, names, want)
		}
		clear(names[:cap(names)])
		for name := range x.names {
			want, there := seen[name]
			x.wantRead(name, want, there)
		}
	}
	if x.t.Failed() {
		x.t.FailNow()
	}
}

// wantRead fails, unless Read answers just these bytes, or its error, and then spoils what it answered.
func (x *both) wantRead(name, want string, there bool) {
	x.t.Helper()
	wantErr := api.OK
	switch {
	case x.w.down:
		want, wantErr = "", api.ErrDown
	case !there:
		wantErr = api.ErrNone
	}
	b, err := x.d.Read(name)
	if string(b) != want || err != wantErr {
		x.t.Errorf("behind %v: Read of %q: %d bytes, %.40q, error %d; want %d bytes, %.40q, error %d", x.acts, name, len(b), b, int(err), len(want), want, int(wantErr))
	}
	for i := range b[:cap(b)] {
		b[:cap(b)][i] ^= 255
	}
}

// tell is a call as a text.
func tell(a act) string {
	switch a.call {
	case 'w':
		return fmt.Sprintf("Write %q %d %.20q", a.file, a.at, a.b)
	case 'n':
		return fmt.Sprintf("Rename %q %q", a.file, a.new)
	case 'r':
		return fmt.Sprintf("Remove %q", a.file)
	}
	return "Sync"
}
