package disk_test

import (
	"fmt"
	"math"
	"slices"
	"strings"
	"testing"

	"lighterman/api"
	"lighterman/disk"
)

func ExampleDisk() {
	d, _ := disk.New(10)
	d.Write("a", 0, []byte("xyz"))
	d.Crash(nil)
	_, err := d.Read("a")
	fmt.Println(err == api.ErrNone)

	d.Write("a", 0, []byte("xyz"))
	d.Sync()
	d.Write("a", 1, []byte("Q"))
	d.Rename("a", "b")
	d.Crash([]bool{false, true})
	b, _ := d.Read("b")
	fmt.Println(string(b))
	// Output:
	// true
	// xyz
}

// P21.1: New

func TestNew(t *testing.T) {
	for _, room := range []int{0, 1, 2, 1000, 1<<20 + 7, mostRoom - 1, mostRoom} {
		x := begun(t, room)
		if x.d.Pending() != 0 || len(x.d.Names()) != 0 {
			t.Errorf("New of %d: %d under way, files %q", room, x.d.Pending(), x.d.Names())
		}
		x.do(write("a", 0, noughts(room)), sync())
		x.wrong(write("a", room, "b"), api.ErrSpace)
	}
}

func TestNewOfWrongRooms(t *testing.T) {
	for _, room := range []int{math.MinInt, -mostRoom, -2, -1, mostRoom + 1, 2 * mostRoom, math.MaxInt32, math.MaxInt} {
		if d, err := disk.New(room); d != nil || err != api.ErrArg {
			t.Errorf("New of %d: %v, error %d", room, d, int(err))
		}
	}
}

// Each is a disk of its own.
func TestNewDisksShareNothing(t *testing.T) {
	a, b := begun(t, 100), begun(t, 100)
	a.do(write("a", 0, "of a"), sync(), write("b", 0, "of a, too"))
	b.same()
	b.do(write("a", 0, "of b, longer"), remove("a"))
	b.stop(0)
	b.wrong(sync(), api.ErrDown)
	a.same()
	a.do(sync())
}

// It doesn't stop by itself.
func TestNewDiskDoesntStop(t *testing.T) {
	d, _ := disk.New(10)
	for range 5000 {
		if d.Write("a", 0, []byte("b")) != api.OK || d.Rename("a", "b") != api.OK || d.Remove("b") != api.OK || d.Sync() != api.OK {
			t.Fatal("an error")
		}
	}
}

// P21.1: Read

func TestRead(t *testing.T) {
	x := begun(t, 1000)
	for _, name := range []string{"", "a", "A", "a ", "\x00", strings.Repeat("a", 32), strings.Repeat("a", 33), strings.Repeat("a", 1000)} {
		x.names[name] = 0
	}
	x.same() // there is none of these
	x.do(write("a", 0, ""), write("A", 0, "1"), write("b", 0, noughts(3)), write("c", 0, noise(chance(1), 300)))
	x.do(sync(), write("c", 2, "over"), rename("b", "a"), remove("A"))
	x.crash()
	x.crash()
}

// Of a file that has no bytes there are none, but no error.
func TestReadOfAnEmptyFile(t *testing.T) {
	d, _ := disk.New(0)
	for range 2 {
		d.Write("a", 0, nil)
		if b, err := d.Read("a"); len(b) != 0 || err != api.OK {
			t.Errorf("%q, error %d", b, int(err))
		}
		d.Sync()
	}
}

func TestReadIsNewMemory(t *testing.T) {
	d, _ := disk.New(100)
	d.Write("a", 0, []byte("abcdef"))
	for range 3 {
		a, _ := d.Read("a")
		b, _ := d.Read("a")
		a = append(a, "more"...)
		clear(a)
		if string(b) != "abcdef" {
			t.Fatalf("%q", b)
		}
		clear(b)
		if b, _ = d.Read("a"); string(b) != "abcdef" {
			t.Fatalf("%q", b)
		}
		d.Write("a", 1, []byte("x"))
		if string(b) != "abcdef" {
			t.Fatalf("a Write changes what was read: %q", b)
		}
		d.Crash(nil)
		d.Write("a", 0, []byte("abcdef"))
		d.Sync()
	}
}

func TestReadOfADiskThatIsDown(t *testing.T) {
	x := begun(t, 100)
	x.do(write("a", 0, "abc"), sync(), write("b", 0, "abc"))
	x.stop(0)
	x.wrong(sync(), api.ErrDown)
	for _, name := range []string{"a", "b", "c", "", strings.Repeat("a", 33)} {
		if b, err := x.d.Read(name); len(b) != 0 || err != api.ErrDown {
			t.Errorf("Read of %q: %q, error %d", name, b, int(err))
		}
	}
}

// P21.2: Write

func TestWrite(t *testing.T) {
	x := begun(t, 1000)
	x.do(write("a", 0, "abc"))
	for at := range 12 {
		for n := range 12 {
			if size := len(x.w.seen()["a"]); at > size {
				x.wrong(write("a", at, noise(chance(2), n)), api.ErrRange)
			} else {
				x.do(write("a", at, noise(chance(uint64(at*n)), n)))
			}
		}
		x.do(sync())
	}
}

func TestWriteAtEachPlace(t *testing.T) {
	for size := range 7 {
		for at := range size + 1 {
			for n := range 9 {
				x := begun(t, 100)
				x.do(write("a", 0, "abcdef"[:size]), sync(), write("a", at, "12345678"[:n]))
				x.do(sync(), write("a", at, "ABCDEFGH"[:n]))
				x.crash()
			}
		}
	}
}

// A file comes to be by no bytes, too, and stays as it is by them.
func TestWriteOfNoBytes(t *testing.T) {
	x := begun(t, 3)
	x.do(write("a", 0, ""), write("b", 0, "xyz"))
	for at := range 4 {
		x.do(write("b", at, ""))
	}
	x.do(write("c", 0, ""), sync())
	if x.d.Pending() != 0 || !slices.Equal(x.d.Names(), []string{"a", "b", "c"}) {
		t.Errorf("%d under way, files %q", x.d.Pending(), x.d.Names())
	}
	for _, b := range [][]byte{nil, {}} {
		if err := x.d.Write("a", 0, b); err != api.OK || x.d.Pending() == 0 {
			t.Errorf("error %d, %d under way", int(err), x.d.Pending())
		}
		x.d.Sync()
	}
}

func TestWriteOfNames(t *testing.T) {
	for _, name := range []string{"a", " ", "\x00", "/", "..", "\xff\xfe", "ä", "a.part", strings.Repeat("a", 31), strings.Repeat("a", 32), strings.Repeat("ä", 16), strings.Repeat("\x00", 32)} {
		x := begun(t, 10)
		x.do(write(name, 0, "xyz"), rename(name, "b"), rename("b", name), write(name, 3, "."), sync(), remove(name))
	}
	for _, name := range []string{"", strings.Repeat("a", 33), strings.Repeat("ä", 17), strings.Repeat("ä", 32), strings.Repeat("€", 11), strings.Repeat("a", 288), strings.Repeat("a", 1<<16)} {
		x := begun(t, 10)
		x.do(write("b", 0, "xyz"))
		x.wrong(write(name, 0, "xyz"), api.ErrArg)
		x.wrong(write(name, 0, ""), api.ErrArg)
		x.wrong(rename(name, "b"), api.ErrArg)
		x.wrong(rename("b", name), api.ErrArg)
		x.wrong(rename(name, name), api.ErrArg)
		x.wrong(rename("none", name), api.ErrArg)
		x.wrong(remove(name), api.ErrNone)
	}
}

func TestWriteBelow0(t *testing.T) {
	x := begun(t, 10)
	x.do(write("a", 0, "xyz"))
	for _, at := range []int{-1, -2, -3, -10, math.MinInt32, math.MinInt + 1, math.MinInt} {
		for _, name := range []string{"a", "b", ""} {
			x.wrong(write(name, at, ""), api.ErrArg)
			x.wrong(write(name, at, "12"), api.ErrArg)
		}
	}
}

func TestWriteBehindTheEnd(t *testing.T) {
	x := begun(t, 10)
	x.wrong(write("a", 1, ""), api.ErrRange)
	x.wrong(write("a", 1, "x"), api.ErrRange)
	x.do(write("a", 0, "xyz"))
	for _, at := range []int{4, 5, 10, 11, mostRoom, math.MaxInt32, math.MaxInt - 1, math.MaxInt} {
		x.wrong(write("a", at, ""), api.ErrRange)
		x.wrong(write("a", at, "12"), api.ErrRange)
		x.wrong(write("b", at, "12"), api.ErrRange)
	}
	x.do(write("a", 3, "12"), write("a", 5, ""), write("b", 0, ""))
	// What is seen counts, not what is sure.
	x.do(sync(), remove("a"))
	x.wrong(write("a", 5, ""), api.ErrRange)
	x.wrong(write("a", 1, ""), api.ErrRange)
	x.do(write("a", 0, "1"), rename("a", "b"), write("b", 1, ""))
	x.wrong(write("a", 1, ""), api.ErrRange)
	x.crash()
	x.do(write("a", 5, "345"))
	x.wrong(write("a", 9, ""), api.ErrRange)
}

func TestWriteWithoutRoom(t *testing.T) {
	for room := range 12 {
		for at := range 5 {
			for n := range 12 {
				x := begun(t, room)
				if 4 > room {
					x.wrong(write("a", 0, "abcd"), api.ErrSpace)
					continue
				}
				x.do(write("a", 0, "abcd"))
				if at+n > room {
					x.wrong(write("a", at, noise(chance(3), n)), api.ErrSpace)
				} else {
					x.do(write("a", at, noise(chance(3), n)))
				}
			}
		}
	}
}

// All files together have so much room, and no more.
func TestWriteWithoutRoomForAllFiles(t *testing.T) {
	x := begun(t, 10)
	x.do(write("a", 0, "123"), write("b", 0, "4567"), write("c", 0, "89"))
	x.wrong(write("d", 0, "0.."), api.ErrSpace)
	x.wrong(write("d", 0, "0."), api.ErrSpace)
	x.wrong(write("a", 3, ".."), api.ErrSpace)
	x.wrong(write("a", 2, "..."), api.ErrSpace)
	x.do(write("d", 0, "0"))
	for _, name := range []string{"a", "b", "c", "d", "e"} {
		size := len(x.w.seen()[name])
		x.wrong(write(name, size, "."), api.ErrSpace)
		x.do(write(name, size, ""), write(name, 0, noughts(size)))
	}
	// Room is that of what is seen: what is taken away frees it at once, what is sure has none.
	x.do(sync(), remove("b"), write("a", 3, "4567"))
	x.wrong(write("b", 0, "."), api.ErrSpace)
	x.do(rename("d", "c"), write("e", 0, "ab"))
	x.wrong(write("e", 2, "c"), api.ErrSpace)
	x.crash()
	x.wrong(write("e", 0, "."), api.ErrSpace)
	x.crash()
	x.do(remove("a"), sync(), write("e", 0, "123"))
	x.crash()
	x.do(write("f", 0, "123"))
	x.wrong(write("f", 3, "4"), api.ErrSpace)
}

// If a crash has left more than there is room for, each Write has too little, even one by which nothing grows.
func TestWriteAboveTheRoom(t *testing.T) {
	x := begun(t, 10)
	x.do(write("a", 0, "12345678"), remove("a"), write("b", 0, "12345678"), write("c", 0, ""))
	x.crash(true, false, true, true)
	x.wrong(write("a", 0, "1"), api.ErrSpace)
	x.wrong(write("c", 0, ""), api.ErrSpace)
	x.do(rename("a", "d"), sync())
	x.wrong(write("d", 8, ""), api.ErrSpace)
	x.do(remove("b"), write("d", 8, "90"))
	x.wrong(write("c", 0, "1"), api.ErrSpace)
}

func TestWriteOfMuch(t *testing.T) {
	x := begun(t, mostRoom)
	c := chance(4)
	b := noise(c, 1<<20)
	for i := range mostRoom >> 20 {
		x.do(write("a", i<<20, b))
	}
	x.wrong(write("a", mostRoom, "1"), api.ErrSpace)
	x.do(write("a", mostRoom-7, noise(c, 7)), sync(), write("a", 1<<20-1, noise(c, 5)))
	x.crash()
	x.wrong(write("b", 0, noughts(mostRoom+1)), api.ErrSpace)
	x.do(remove("a"), write("b", 0, noughts(mostRoom)))
}

// Which error is told, if there might be several.
func TestWriteErrorsInOrder(t *testing.T) {
	x := begun(t, 4)
	x.do(write("a", 0, "xyz"), sync())
	x.wrong(write("", 4, "12345"), api.ErrArg)
	x.wrong(write("", -1, "12345"), api.ErrArg)
	x.wrong(write("a", -1, "12345"), api.ErrArg)
	x.wrong(write("a", 4, "12345"), api.ErrRange)
	x.wrong(write("b", 1, "12345"), api.ErrRange)
	x.wrong(write("a", 3, "12345"), api.ErrSpace)
	x.stop(0)
	x.wrong(write("", 4, "12345"), api.ErrArg)
	x.wrong(write("a", 4, "12345"), api.ErrRange)
	x.wrong(write("a", 3, "12345"), api.ErrSpace)
	x.wrong(write("a", 3, "1"), api.ErrDown)
	x.wrong(write("", 4, "12345"), api.ErrDown)
	x.wrong(write("a", -1, ""), api.ErrDown)
	x.wrong(write("a", 4, "12345"), api.ErrDown)
	x.wrong(write("a", 3, "12345"), api.ErrDown)
}

// What was handed in is neither kept nor changed.
func TestWriteKeepsNothing(t *testing.T) {
	d, _ := disk.New(100)
	b := []byte("abcdef")
	want := func(what string) {
		t.Helper()
		if got, _ := d.Read("a"); string(got) != "abcdef" {
			t.Errorf("%s: %q", what, got)
		}
	}
	d.Write("a", 0, b)
	clear(b)
	want("seen")
	d.Sync()
	want("sure")
	d.Crash(nil)
	want("behind a crash")
	b = []byte("xyz")
	d.Write("a", 6, b)
	clear(b)
	d.Crash([]bool{true})
	if got, _ := d.Read("a"); string(got) != "abcdefxyz" {
		t.Errorf("kept: %q", got)
	}
}

// P21.2: Rename

func TestRename(t *testing.T) {
	x := begun(t, 20)
	x.wrong(rename("a", "b"), api.ErrNone)
	x.wrong(rename("a", "a"), api.ErrNone)
	x.do(write("a", 0, "of a"), write("b", 0, "of b too"), rename("a", "c"))
	x.wrong(rename("a", "b"), api.ErrNone)
	x.do(rename("c", "b"), rename("b", "a"), sync(), rename("a", "b"), rename("b", "a"), write("c", 0, ""), rename("c", "a"))
	x.crash(false, true, true, true)
	x.do(rename("c", "a"), sync())
}

func TestRenameToTheSameName(t *testing.T) {
	x := begun(t, 20)
	x.do(write("a", 0, "of a"), write("b", 0, "of b"), rename("a", "a"))
	if x.d.Pending() != 3 {
		t.Errorf("%d under way", x.d.Pending())
	}
	x.do(sync(), rename("b", "b"), rename("a", "a"), write("a", 4, "."), rename("a", "a"))
	x.crash(true, true, true, true)
	x.stop(1)
	x.do(rename("a", "a"))
	x.wrong(rename("b", "b"), api.ErrDown)
	x.crash()
	x.wrong(rename("c", "c"), api.ErrNone)
}

// Files go in a circle, and each of these is the one that it was.
func TestRenameInACircle(t *testing.T) {
	for kept := range 1 << 4 {
		x := begun(t, 20)
		x.do(write("a", 0, "of a"), write("b", 0, "of b"), write("c", 0, "of c"), sync())
		x.do(rename("a", "d"), rename("b", "a"), rename("c", "b"), rename("d", "c"))
		x.crash(chosen(kept, 4)...)
		x.do(sync())
	}
}

func TestRenameErrorsInOrder(t *testing.T) {
	long := strings.Repeat("a", 33)
	x := begun(t, 20)
	x.do(write("a", 0, "of a"))
	x.stop(0)
	x.wrong(rename("", ""), api.ErrArg)
	x.wrong(rename("a", ""), api.ErrArg)
	x.wrong(rename("a", long), api.ErrArg)
	x.wrong(rename("b", long), api.ErrArg)
	x.wrong(rename(long, "a"), api.ErrArg)
	x.wrong(rename("b", "a"), api.ErrNone)
	x.wrong(rename("a", "b"), api.ErrDown)
	x.wrong(rename("", ""), api.ErrDown)
	x.wrong(rename("b", "a"), api.ErrDown)
	x.wrong(rename("a", "a"), api.ErrDown)
}

// P21.2: Remove

func TestRemove(t *testing.T) {
	x := begun(t, 20)
	x.wrong(remove("a"), api.ErrNone)
	x.do(write("a", 0, "of a"), write("b", 0, "of b"), remove("a"))
	x.wrong(remove("a"), api.ErrNone)
	x.do(sync(), remove("b"))
	x.wrong(remove("b"), api.ErrNone)
	x.wrong(remove("c"), api.ErrNone)
	x.do(write("b", 0, ""), remove("b"), write("b", 0, "1"), rename("b", "c"))
	x.wrong(remove("b"), api.ErrNone)
	x.do(remove("c"))
	x.crash(false, false, false, false, false, true) // of which nothing is there then
	x.stop(0)
	x.wrong(remove("c"), api.ErrNone)
	x.wrong(remove(""), api.ErrNone)
	x.wrong(remove("b"), api.ErrDown)
	x.wrong(remove("c"), api.ErrDown)
	x.wrong(remove(""), api.ErrDown)
}

// A file that comes anew has nothing of the one that was.
func TestRemoveLeavesNothing(t *testing.T) {
	x := begun(t, 100)
	x.do(write("a", 0, "of long ago"), sync(), remove("a"), write("a", 0, "x"), write("a", 1, ""), sync())
	x.do(write("b", 0, "of long ago"), sync(), rename("a", "b"), write("b", 1, "y"), write("a", 0, ""))
	x.do(remove("a"), remove("b"), write("b", 0, "z"))
	x.crash(true, true, true, true, false, true)
	x.crash()
}

// P21.2: Sync

func TestSync(t *testing.T) {
	x := begun(t, 100)
	x.do(sync(), sync())
	x.do(write("a", 0, "abc"), write("b", 0, "def"), rename("a", "c"), remove("b"), write("c", 1, "1234"))
	if x.d.Pending() != 5 {
		t.Errorf("%d under way", x.d.Pending())
	}
	x.do(sync())
	if x.d.Pending() != 0 {
		t.Errorf("%d under way behind Sync", x.d.Pending())
	}
	x.crash()
	x.crash(true, true, true, true, true)
	x.do(sync(), write("d", 0, "."), write("c", 0, "."))
	x.crash()
	x.do(write("e", 0, "e"), sync(), remove("e"))
	x.crash()
}
