package disk_test

import (
	"fmt"
	"maps"
	"math"
	"slices"
	"strings"
	"testing"

	"lighterman/api"
	"lighterman/disk"
)

// P21.3: Stop

// scene are calls of each kind that are done, one behind the other.
func scene() []act {
	return []act{
		write("a", 0, "abc"), sync(), write("a", 1, "BCDE"), rename("a", "b"), write("a", 0, ""),
		write("a", 0, "12"), sync(), sync(), remove("b"), rename("a", "a"), write("b", 0, "x"), rename("b", "a"), sync(), remove("a"),
	}
}

func TestStop(t *testing.T) {
	for after := range len(scene()) {
		x := begun(t, 10)
		x.do(scene()...)
		x.do(x.empty()...)
		x.stop(after)
		for k, a := range scene() {
			switch {
			case k == after:
				x.wrong(a, api.ErrDown)
			case k > after:
				x.wrong(a, api.ErrDown)
				x.wrong(sync(), api.ErrDown)
			default:
				x.do(a)
			}
		}
		x.crash()
		x.do(write("z", 0, "up"), sync(), remove("z"), sync())
		x.do(x.empty()...)
		x.do(scene()...) // it doesn't stop
	}
}

// empty are calls that take all files away.
func (x *both) empty() []act {
	var l []act
	for _, name := range slices.Sorted(maps.Keys(x.w.seen())) {
		l = append(l, remove(name))
	}
	return append(l, sync())
}

// What has an error of its own isn't done, and doesn't count; Read, Names and Pending don't, either.
func TestStopCountsWhatIsDone(t *testing.T) {
	for after := range 5 {
		x := begun(t, 10)
		x.do(write("a", 0, "abc"))
		x.stop(after)
		for range after {
			x.errors()
			x.do(write("a", 2, "d"))
		}
		x.errors()
		x.wrong(write("a", 2, "e"), api.ErrDown)
		x.wrong(write("", 2, "e"), api.ErrDown)
	}
}

// errors are calls that have one, of all kinds.
func (x *both) errors() {
	x.t.Helper()
	x.wrong(write("", 0, ""), api.ErrArg)
	x.wrong(write("a", -1, ""), api.ErrArg)
	x.wrong(write("a", 9, ""), api.ErrRange)
	x.wrong(write("a", 0, noughts(11)), api.ErrSpace)
	x.wrong(rename("", "a"), api.ErrArg)
	x.wrong(rename("a", ""), api.ErrArg)
	x.wrong(rename("none", "a"), api.ErrNone)
	x.wrong(remove("none"), api.ErrNone)
}

// Each kind of call may be the one that isn't done.
func TestStopAtEachKind(t *testing.T) {
	for _, a := range []act{write("a", 0, "Q"), write("new", 0, ""), rename("a", "b"), rename("a", "new"), rename("a", "a"), remove("a"), sync()} {
		for _, before := range []act{write("b", 0, "Q"), rename("b", "c"), remove("b"), sync()} {
			x := begun(t, 10)
			x.do(write("a", 0, "abc"), write("b", 0, "d"), sync(), write("a", 1, "B"))
			x.stop(1)
			x.do(before)
			x.wrong(a, api.ErrDown)
			x.crash()
			x.do(a)
		}
	}
}

// What counts is what was said last.
func TestStopAnew(t *testing.T) {
	x := begun(t, 10)
	for _, l := range [][]int{{0, 3}, {3, 1}, {1, -1}, {-1, 2}, {0, math.MinInt}, {0, -1, 1}, {5, 0}, {math.MaxInt, 0}, {0, math.MaxInt}, {2, 2, 2}, {-5, 0}} {
		for _, after := range l {
			x.stop(after)
		}
		for range 6 {
			x.do(write("a", 0, "b"))
		}
		x.crash()
	}
	x.stop(3)
	x.do(sync(), sync())
	x.stop(3)
	x.do(sync(), sync(), sync())
	x.stop(1)
	x.do(sync())
	x.wrong(sync(), api.ErrDown)
}

func TestStopBelow0(t *testing.T) {
	for _, after := range []int{-1, -2, math.MinInt32, math.MinInt} {
		x := begun(t, 10)
		x.stop(after)
		for range 3 {
			x.do(write("a", 0, "b"), sync())
		}
		x.stop(2)
		x.do(sync())
		x.stop(after)
		for range 3 {
			x.do(write("a", 0, "b"), sync())
		}
	}
}

// A disk that is down stays down until a Crash, whatever Stop is told.
func TestStopOfADiskThatIsDown(t *testing.T) {
	for _, after := range []int{-1, 0, 1, 5, math.MaxInt, math.MinInt} {
		x := begun(t, 10)
		x.do(write("a", 0, "b"))
		x.stop(0)
		x.wrong(sync(), api.ErrDown)
		x.stop(after)
		for range 3 {
			x.wrong(sync(), api.ErrDown)
			x.wrong(write("a", 0, "b"), api.ErrDown)
			x.wrong(rename("a", "b"), api.ErrDown)
			x.wrong(remove("a"), api.ErrDown)
		}
		x.crash(true)
		for range 3 {
			x.do(write("a", 0, "b"), sync())
		}
	}
}

// Until the call that isn't done it is up.
func TestStopIsntDownYet(t *testing.T) {
	x := begun(t, 10)
	x.do(write("a", 0, "b"))
	x.stop(0)
	for range 3 {
		if b, err := x.d.Read("a"); string(b) != "b" || err != api.OK {
			t.Errorf("%q, error %d", b, int(err))
		}
	}
	x.crash(true)
	x.do(sync(), sync())
}

// What is under way stays under way, and files are seen as they were.
func TestDiskThatIsDown(t *testing.T) {
	x := begun(t, 10)
	x.do(write("a", 0, "abc"), sync(), write("b", 0, "d"), rename("a", "c"))
	x.stop(0)
	x.wrong(remove("b"), api.ErrDown)
	if names := x.d.Names(); x.d.Pending() != 2 || !slices.Equal(names, []string{"b", "c"}) {
		t.Errorf("%d under way, files %q", x.d.Pending(), names)
	}
	x.crash(true)
	if names := x.d.Names(); x.d.Pending() != 0 || !slices.Equal(names, []string{"a", "b"}) {
		t.Errorf("%d under way, files %q", x.d.Pending(), names)
	}
}

// P21.3: Crash

// chosen are those of n that are 1 in a number's bits.
func chosen(bits, n int) []bool {
	l := make([]bool, n)
	for k := range l {
		l[k] = bits>>k&1 == 1
	}
	return l
}

// rows are operations that lean on each other.
func rows() [][]act {
	return [][]act{
		{},
		{write("a", 0, "Q")},
		{remove("a")},
		{rename("a", "b")},
		{write("a", 3, "def"), write("a", 6, "ghi"), write("a", 1, "BCDEFGH"), write("a", 9, "")},
		{write("n", 0, "12"), write("n", 2, "34"), write("n", 4, "56"), write("n", 1, "!")},
		{write("n", 0, "12"), write("n", 2, ""), rename("n", "m"), write("m", 2, "34"), write("m", 4, "")},
		{rename("a", "b"), write("b", 3, "def"), rename("b", "c"), write("c", 6, "ghi"), remove("c")},
		{remove("a"), write("a", 0, ""), write("a", 0, "1234"), rename("a", "b"), remove("b"), write("b", 0, "xy"), rename("b", "a")},
		{rename("b", "a"), rename("a", "b"), rename("b", "b"), write("b", 1, "??"), remove("b")},
		{write("b", 0, "12345"), rename("b", "a"), write("b", 0, "x"), rename("a", "b"), write("a", 0, "y"), rename("b", "n"), remove("n")},
	}
}

func TestCrash(t *testing.T) {
	for _, row := range rows() {
		for kept := range 1 << len(row) {
			x := begun(t, 40)
			x.do(write("a", 0, "abc"), write("b", 0, "of b"), sync())
			x.do(row...)
			x.crash(chosen(kept, len(row))...)
			x.crash(true, true, true, true, true, true, true)
			x.do(write("z", 0, "up"), sync(), remove("z"))
		}
	}
}

// The same when it stopped, at each place.
func TestCrashBehindStop(t *testing.T) {
	for _, row := range rows() {
		for after := range row {
			for kept := range 1 << after {
				x := begun(t, 40)
				x.do(write("a", 0, "abc"), write("b", 0, "of b"), sync())
				x.stop(after)
				x.do(row...)
				x.crash(chosen(kept, after)...)
				x.do(sync())
			}
		}
	}
}

// Where fewer are told than are under way, the others aren't kept; where more are, there are none of these.
func TestCrashOfFewerAndMore(t *testing.T) {
	for n := range 8 {
		for kept := range 1 << n {
			x := begun(t, 20)
			x.do(write("a", 0, "1"), sync())
			x.do(write("a", 1, "2"), write("a", 2, "3"), write("a", 3, "4"), rename("a", "b"))
			x.crash(chosen(kept, n)...)
		}
	}
	for _, keep := range [][]bool{nil, {}} {
		x := begun(t, 20)
		x.do(write("a", 0, "1"))
		x.crash(keep...)
	}
	x := begun(t, 20)
	x.do(write("a", 0, "1"))
	x.crash(slices.Repeat([]bool{true}, 1000)...)
}

func TestCrashFillsUpWithNoughts(t *testing.T) {
	d, _ := disk.New(100)
	d.Write("a", 0, []byte("abc"))
	d.Write("a", 3, []byte("def"))
	d.Crash([]bool{false, true})
	if b, err := d.Read("a"); string(b) != "\x00\x00\x00def" || err != api.OK {
		t.Errorf("%q, error %d", b, int(err))
	}
	d.Sync()
	d.Write("a", 6, []byte("ghi"))
	d.Write("a", 9, nil)
	d.Crash([]bool{false, true})
	if b, err := d.Read("a"); string(b) != "\x00\x00\x00def\x00\x00\x00" || err != api.OK {
		t.Errorf("%q, error %d", b, int(err))
	}
}

// Noughts stand there even where other bytes once stood.
func TestCrashFillsUpWithNoughtsOnly(t *testing.T) {
	for n := range 40 {
		x := begun(t, 1000)
		x.do(write("a", 0, noise(chance(5), 30)), remove("a"), write("a", 0, noise(chance(6), n)), write("a", n, "."), sync())
		x.do(write("b", 0, noise(chance(7), n)), write("b", n, "end"))
		x.crash(false, true)
		x.do(remove("b"), write("b", 0, ""), write("b", 0, noise(chance(8), n)), write("b", n, noise(chance(9), n)))
		x.crash(true, true, false, true)
	}
}

// A Rename that is kept does nothing, if the file isn't there, not even to the one with the new name.
func TestCrashRenamesNothing(t *testing.T) {
	x := begun(t, 20)
	x.do(write("b", 0, "of b"), sync(), write("a", 0, "of a"), rename("a", "b"), write("b", 4, "!"))
	x.crash(false, true, true)
	if b, err := x.d.Read("b"); string(b) != "of b!" || err != api.OK {
		t.Errorf("%q, error %d", b, int(err))
	}
}

func TestCrashOfNothing(t *testing.T) {
	x := begun(t, 20)
	x.crash()
	x.crash(true)
	x.do(write("a", 0, "abc"), sync())
	x.crash(true, true)
	x.crash()
	x.stop(5)
	x.crash()
	for range 10 {
		x.do(write("a", 0, "abc"), sync())
	}
}

// What is seen behind a crash and what is sure are two: a Write that isn't kept leaves no trace.
func TestCrashSharesNothing(t *testing.T) {
	x := begun(t, 100)
	x.do(write("a", 0, "abcdef"), write("b", 0, "ghi"))
	for range 3 {
		x.crash(true, true)
		x.do(write("a", 0, "ABCDEFGH"), write("b", 1, "HI"), rename("a", "c"), remove("b"), write("c", 0, "12"))
		x.crash()
		x.do(write("a", 2, "CD"), sync(), write("a", 2, "!!"), write("a", 4, "!!"))
	}
}

// P21.3: Pending, Names

func TestPending(t *testing.T) {
	d, _ := disk.New(10)
	for n := range 1000 {
		if d.Pending() != n {
			t.Fatalf("%d under way, want %d", d.Pending(), n)
		}
		d.Write("a", 0, []byte("b"))
		d.Rename("b", "c")           // there is none
		d.Write("a", 9, []byte("b")) // there is no such place
	}
	d.Sync()
	if d.Pending() != 0 {
		t.Errorf("%d under way behind Sync", d.Pending())
	}
}

func TestNames(t *testing.T) {
	x := begun(t, 10)
	l := []string{"b", "a", "aa", "B", "a.part", "a.log", "\xff", "\x00", "ä", "z", " ", "10", "9", strings.Repeat("z", 32)}
	for _, name := range l {
		x.do(write(name, 0, ""))
	}
	slices.Sort(l)
	if names := x.d.Names(); !slices.Equal(names, l) {
		t.Errorf("%q, want %q", names, l)
	}
	names := x.d.Names()
	names = append(names, "more")
	clear(names)
	x.same()
	x.do(sync(), remove("a"), rename("b", "y"), rename("y", "z"))
	x.crash(true)
}

func TestNamesOfManyFiles(t *testing.T) {
	d, _ := disk.New(10000)
	var want []string
	for i := range 1000 {
		name := fmt.Sprint(i * 7919 % 1000)
		if err := d.Write(name, 0, []byte(name)); err != api.OK {
			t.Fatalf("error %d", int(err))
		}
		want = append(want, name)
	}
	slices.Sort(want)
	for range 5 {
		if names := d.Names(); !slices.Equal(names, want) {
			t.Fatalf("%q", names)
		}
	}
}

// P21.3: of nil

func TestNil(t *testing.T) {
	var d *disk.Disk
	for range 2 {
		for _, a := range []act{write("a", 0, "b"), write("a", 1, "b"), write("", -1, ""), rename("a", "b"), rename("", ""), remove("a"), remove(""), sync()} {
			if err := asked(t, d, a); err != api.ErrArg {
				t.Errorf("%s: error %d", tell(a), int(err))
			}
		}
		if b, err := d.Read("a"); len(b) != 0 || err != api.ErrArg {
			t.Errorf("Read: %q, error %d", b, int(err))
		}
		if d.Pending() != 0 || len(d.Names()) != 0 {
			t.Errorf("%d under way, files %q", d.Pending(), d.Names())
		}
		d.Stop(0)
		d.Crash(nil)
		d.Crash([]bool{true})
	}
}

// One that isn't from New is one without room: nothing is promised of it but that all calls end.
func TestDiskThatIsntFromNew(t *testing.T) {
	for _, crashed := range []bool{false, true} {
		x := &both{t: t, d: &disk.Disk{}, w: &words{sure: files{}}, names: map[string]int{}}
		if crashed {
			x.crash(true)
		}
		x.do(sync())
		x.wrong(write("a", 0, "b"), api.ErrSpace)
		x.do(write("a", 0, ""), rename("a", "b"), sync(), write("c", 0, ""), remove("b"))
		x.crash(true)
	}
}

// P21.4

// What is sure stays through a crash, unless something under way that is kept changes it.
func TestWhatIsSureStays(t *testing.T) {
	c := chance(10)
	for range 2000 {
		x := begun(t, 200)
		for range 8 {
			x.do(x.fine(c))
		}
		x.do(sync())
		sure := map[string]string{}
		for _, name := range x.d.Names() {
			b, _ := x.d.Read(name)
			sure[name] = string(b)
		}
		touched := map[string]int{}
		var keep []bool
		for x.stop(c.IntN(6)); !x.w.down; {
			a, kept := x.fine(c), c.IntN(2) == 0
			x.do(a)
			keep = append(keep, kept)
			if kept {
				touched[a.file], touched[a.new] = 0, 0
			}
		}
		x.crash(keep...)
		for name, want := range sure {
			b, err := x.d.Read(name)
			if _, is := touched[name]; !is && (string(b) != want || err != api.OK) {
				t.Fatalf("behind %v: %q was sure, is %q, error %d", x.acts, want, b, int(err))
			}
		}
	}
}
