package disk_test

import (
	"math"
	"slices"
	"strconv"
	"strings"
	"testing"

	"fascicle/api"
	"fascicle/disk"
)

// fresh is a new disk with room for so many bytes.
func fresh(t *testing.T, room int) *disk.Disk {
	t.Helper()
	d, e := disk.New(room)
	if d == nil || e != api.OK {
		t.Fatalf("New(%d): %v %v", room, d, e)
	}
	return d
}

// fine fails the test unless all of these are OK.
func fine(t *testing.T, errs ...api.Errno) {
	t.Helper()
	tells(t, api.OK, errs...)
}

// tells fails the test unless all of these are the one that is wanted.
func tells(t *testing.T, want api.Errno, errs ...api.Errno) {
	t.Helper()
	for i, e := range errs {
		if e != want {
			t.Fatalf("call %d tells %v, not %v", i, e, want)
		}
	}
}

// has fails the test unless the disk has these files alone, told as name:bytes with a blank between two, rising.
// It asks Names, Read, Size and Used, and holds them against each other.
func has(t *testing.T, d *disk.Disk, want string) {
	t.Helper()
	var l []string
	used := 0
	for _, name := range d.Names() {
		s, e := d.Read(name, 0, math.MaxInt)
		n, e2 := d.Size(name)
		if e != api.OK || e2 != api.OK || n != len(s) {
			t.Fatalf("%s: read %q %v, size %d %v", name, s, e, n, e2)
		}
		used += n
		l = append(l, name+":"+s)
	}
	if got := strings.Join(l, " "); got != want {
		t.Fatalf("files %q, not %q", got, want)
	}
	if d.Used() != used {
		t.Fatalf("used %d, not %d", d.Used(), used)
	}
}

// loose fails the test unless so many calls are loose.
func loose(t *testing.T, d *disk.Disk, want int) {
	t.Helper()
	if got := d.Loose(); got != want {
		t.Fatalf("loose %d, not %d", got, want)
	}
}

// badNames may not be: no byte, too many, and bytes that a name does not have.
func badNames() []string {
	l := []string{"", strings.Repeat("a", 65), strings.Repeat("a", 66), strings.Repeat("-", 1000), "\u00e9", "a\u0430b", "\u212a"}
	for b := range 256 {
		c := string([]byte{byte(b)})
		if strings.Contains("abcdefghijklmnopqrstuvwxyz0123456789.-", c) {
			continue
		}
		l = append(l, c, "a"+c, c+"a", "a"+c+"b", strings.Repeat("a", 63)+c)
	}
	return l
}

// goodNames may be: of 1 byte and of 64, and of each byte that a name has.
func goodNames() []string {
	l := []string{".", "..", "-", "...-", strings.Repeat("a", 64), strings.Repeat("9", 63), "abcdefghijklmnopqrstuvwxyz0123456789.-"}
	for _, c := range "abcdefghijklmnopqrstuvwxyz0123456789.-" {
		l = append(l, "x"+string(c), string(c)+"x")
	}
	return l
}

// P2.1: a room from 0 to 2^24, and a disk without files.
func TestNew(t *testing.T) {
	for _, room := range []int{0, 1, 9, 1<<24 - 1, 1 << 24} {
		d := fresh(t, room)
		has(t, d, "")
		loose(t, d, 0)
		if l := d.Names(); len(l) != 0 {
			t.Errorf("New(%d): names %q", room, l)
		}
	}
	for _, room := range []int{-1, -2, math.MinInt, 1<<24 + 1, 1 << 25, math.MaxInt} {
		if d, e := disk.New(room); d != nil || e != api.ErrArg {
			t.Errorf("New(%d): %v %v, not ErrArg", room, d, e)
		}
	}
}

// P2.1: the room is what New was given: so many bytes are taken, and not one more.
func TestNewRoom(t *testing.T) {
	for _, room := range []int{0, 1, 2, 9, 1000, 1<<24 - 1, 1 << 24} {
		d := fresh(t, room)
		tells(t, api.ErrFull, d.Append("a", strings.Repeat("x", room+1)))
		has(t, d, "")
		fine(t, d.Append("a", strings.Repeat("x", room)))
		if d.Used() != room {
			t.Errorf("room %d: used %d", room, d.Used())
		}
		tells(t, api.ErrFull, d.Append("a", "x"), d.Append("b", "x"))
		if d.Used() != room || !slices.Equal(d.Names(), []string{"a"}) {
			t.Errorf("room %d: used %d, names %q", room, d.Used(), d.Names())
		}
	}
}

// P2.1: two disks have nothing of each other.
func TestNewApart(t *testing.T) {
	a, b := fresh(t, 9), fresh(t, 9)
	fine(t, a.Append("x", "one"), a.Sync(), a.Fuse(0))
	has(t, b, "")
	fine(t, b.Append("x", "two"), b.Sync())
	fine(t, a.Fuse(-1))
	has(t, a, "x:one")
	has(t, b, "x:two")
}

// P2.1: names rise, byte by byte, whatever the order in which they came.
func TestNames(t *testing.T) {
	d := fresh(t, 99)
	for _, name := range []string{"b", "a", "ab", "a.b", "a-b", "0", "-", ".", "z9", "aa", "10", "9"} {
		fine(t, d.Append(name, "x"))
	}
	want := []string{"-", ".", "0", "10", "9", "a", "a-b", "a.b", "aa", "ab", "b", "z9"}
	if got := d.Names(); !slices.Equal(got, want) {
		t.Errorf("names %q, not %q", got, want)
	}
	fine(t, d.Remove("aa"), d.Rename("b", "c"), d.Append("empty", ""))
	want = []string{"-", ".", "0", "10", "9", "a", "a-b", "a.b", "ab", "c", "empty", "z9"}
	if got := d.Names(); !slices.Equal(got, want) {
		t.Errorf("names %q, not %q", got, want)
	}
}

// R5: the list of names is new each time: who changes it changes nothing else.
func TestNamesNew(t *testing.T) {
	d := fresh(t, 9)
	fine(t, d.Append("a", "1"), d.Append("b", "2"))
	l := d.Names()
	l[0], l[1] = "z", "y"
	has(t, d, "a:1 b:2")
}

// P2.1: Used counts loose bytes too, as calls come and go; Loose counts calls that change since the last Sync.
func TestUsedLoose(t *testing.T) {
	d := fresh(t, 20)
	for i, x := range []struct {
		do          func() api.Errno
		e           api.Errno
		used, loose int
	}{
		{func() api.Errno { return d.Append("a", "12345") }, api.OK, 5, 1},
		{func() api.Errno { return d.Append("a", "") }, api.OK, 5, 2},
		{func() api.Errno { return d.Append("b", "123") }, api.OK, 8, 3},
		{func() api.Errno { return d.Append("b", "1234567890123") }, api.ErrFull, 8, 3},
		{func() api.Errno { return d.Truncate("a", 4) }, api.OK, 7, 4},
		{func() api.Errno { return d.Truncate("a", 4) }, api.OK, 7, 5},
		{func() api.Errno { return d.Truncate("a", 5) }, api.ErrArg, 7, 5},
		{d.Sync, api.OK, 7, 0},
		{d.Sync, api.OK, 7, 0},
		{func() api.Errno { return d.Rename("b", "b") }, api.ErrArg, 7, 0},
		{func() api.Errno { return d.Rename("b", "c") }, api.OK, 7, 1},
		{func() api.Errno { return d.Rename("c", "a") }, api.OK, 3, 2},
		{func() api.Errno { return d.Flip("a", 0, 0) }, api.ErrLoose, 3, 2},
		{func() api.Errno { return d.Remove("c") }, api.ErrNone, 3, 2},
		{func() api.Errno { return d.Remove("a") }, api.OK, 0, 3},
		{func() api.Errno { return d.Crash(1, 0) }, api.OK, 7, 0},
		{func() api.Errno { return d.Flip("c", 0, 0) }, api.OK, 7, 0},
		{func() api.Errno { return d.Room(1) }, api.OK, 7, 0},
	} {
		if e := x.do(); e != x.e || d.Used() != x.used || d.Loose() != x.loose {
			t.Fatalf("call %d: %v, used %d, loose %d, not %v", i, e, d.Used(), d.Loose(), x)
		}
	}
}

// P2.1: the room is another one, from the next Append on; what is there stays, however little it is.
func TestRoom(t *testing.T) {
	d := fresh(t, 3)
	fine(t, d.Append("a", "123"))
	tells(t, api.ErrFull, d.Append("a", "4"))
	fine(t, d.Room(4), d.Append("a", "4"))
	tells(t, api.ErrFull, d.Append("b", "5"))
	fine(t, d.Room(2))
	has(t, d, "a:1234")
	tells(t, api.ErrFull, d.Append("a", "5"))
	fine(t, d.Append("b", ""), d.Truncate("a", 2))
	tells(t, api.ErrFull, d.Append("a", "3"))
	fine(t, d.Truncate("a", 1), d.Append("b", "x"), d.Room(0), d.Append("b", ""))
	has(t, d, "a:1 b:x")
	tells(t, api.ErrFull, d.Append("b", "y"))
	fine(t, d.Room(1<<24), d.Append("b", strings.Repeat("y", 1<<24-2)))
	tells(t, api.ErrFull, d.Append("b", "z"))
}

// P2.1: rooms that may not be change nothing.
func TestRoomWrong(t *testing.T) {
	d := fresh(t, 3)
	for _, n := range []int{-1, -3, math.MinInt, 1<<24 + 1, 1 << 40, math.MaxInt} {
		tells(t, api.ErrArg, d.Room(n))
	}
	fine(t, d.Append("a", "123"))
	tells(t, api.ErrFull, d.Append("a", "4"))
	fine(t, d.Room(1<<24-1), d.Room(1<<24), d.Room(1), d.Room(0))
}

// P2.1: Room burns no fuse, works on a disk that stands still, and is kept over a crash.
func TestRoomFuse(t *testing.T) {
	d := fresh(t, 1)
	fine(t, d.Fuse(1), d.Room(2), d.Room(3), d.Append("a", "123"))
	tells(t, api.ErrDown, d.Append("a", ""))
	tells(t, api.ErrArg, d.Room(-1))
	fine(t, d.Room(5))
	tells(t, api.ErrDown, d.Append("a", "4"))
	fine(t, d.Crash(9, 0), d.Append("a", "45"))
	tells(t, api.ErrFull, d.Append("a", "6"))
	has(t, d, "a:12345")
}

// P2.1, P2.4: a crash brings back what has no room any more, and all of it is there.
func TestRoomCrash(t *testing.T) {
	d := fresh(t, 4)
	fine(t, d.Append("a", "1234"), d.Sync(), d.Remove("a"), d.Append("b", "5678"), d.Room(1), d.Crash(0, 0))
	has(t, d, "a:1234")
	fine(t, d.Room(4), d.Truncate("a", 0), d.Append("a", "5678"), d.Room(0), d.Crash(1, 3))
	has(t, d, "a:567")
}

// R3: what no disk answers.
func TestNil(t *testing.T) {
	var d *disk.Disk
	for _, name := range []string{"a", "", "A"} {
		tells(t, api.ErrNil, d.Append(name, ""), d.Append(name, "x"), d.Truncate(name, 0), d.Truncate(name, -1),
			d.Rename(name, "b"), d.Rename(name, name), d.Remove(name), d.Flip(name, 0, 0), d.Flip(name, -1, 9))
		if s, e := d.Read(name, 0, 1); s != "" || e != api.ErrNil {
			t.Errorf("Read of no disk: %q %v", s, e)
		}
		if n, e := d.Size(name); n != 0 || e != api.ErrNil {
			t.Errorf("Size of no disk: %d %v", n, e)
		}
	}
	for _, n := range []int{-1, 0, 1, math.MaxInt} {
		tells(t, api.ErrNil, d.Sync(), d.Room(n), d.Fuse(n), d.Crash(n, 0), d.Crash(0, n))
	}
	if d.Names() != nil || d.Used() != 0 || d.Loose() != 0 {
		t.Errorf("no disk: %q %d %d", d.Names(), d.Used(), d.Loose())
	}
}

// Many files, and many small pieces of one, each synced: what a Sync costs hangs on what was done, not on what is there.
func TestMany(t *testing.T) {
	d := fresh(t, 1<<24)
	for i := range 10000 {
		fine(t, d.Append("f."+strconv.Itoa(i), "x"), d.Append("all", strconv.Itoa(i%10)), d.Sync())
	}
	if len(d.Names()) != 10001 || d.Used() != 20000 {
		t.Errorf("%d names, %d bytes", len(d.Names()), d.Used())
	}
	fine(t, d.Crash(0, 0))
	if s, e := d.Read("all", 9990, 20); s != "0123456789" || e != api.OK {
		t.Errorf("%q %v", s, e)
	}
}
