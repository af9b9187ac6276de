package disk_test

import (
	"math"
	"strings"
	"testing"

	"fascicle/api"
	"fascicle/disk"
)

// P2.4: so many calls are done as ever, each kind of them counts; the next one is ErrDown and is not done, nor any from then on.
func TestFuse(t *testing.T) {
	d := fresh(t, 99)
	fine(t, d.Append("a", "1234"), d.Sync(), d.Fuse(5))
	fine(t, d.Append("a", "5"), d.Truncate("a", 3), d.Rename("a", "b"), d.Sync(), d.Append("c", ""))
	has(t, d, "b:123 c:")
	tells(t, api.ErrDown, d.Remove("b"), d.Append("b", "x"), d.Append("d", ""), d.Truncate("b", 0), d.Rename("b", "d"), d.Remove("c"), d.Sync())
	loose(t, d, 1)
	fine(t, d.Fuse(-1))
	has(t, d, "b:123 c:")
	loose(t, d, 1)
}

// P2.4: a fuse of 0 lets nothing be done, whichever call is the next one.
func TestFuseNone(t *testing.T) {
	for i, do := range []func(d *disk.Disk) api.Errno{
		func(d *disk.Disk) api.Errno { return d.Append("a", "") },
		func(d *disk.Disk) api.Errno { return d.Append("c", "") },
		func(d *disk.Disk) api.Errno { return d.Truncate("a", 4) },
		func(d *disk.Disk) api.Errno { return d.Rename("a", "b") },
		func(d *disk.Disk) api.Errno { return d.Remove("a") },
		(*disk.Disk).Sync,
	} {
		d := made(t)
		fine(t, d.Fuse(0))
		has(t, d, "a:abcd b:ef")
		if e := do(d); e != api.ErrDown {
			t.Errorf("call %d: %v, not ErrDown", i, e)
		}
		if n, e := d.Size("a"); n != 0 || e != api.ErrDown {
			t.Errorf("call %d, then Size: %d %v, not ErrDown", i, n, e)
		}
		fine(t, d.Fuse(-9))
		has(t, d, "a:abcd b:ef")
		loose(t, d, 0)
	}
}

// P2.4: calls that have errors burn no fuse, and at its end they tell their own; nor do Read, Size, Flip, and what tells no error.
func TestFuseErrors(t *testing.T) {
	d := made(t)
	ask := func() {
		t.Helper()
		tells(t, api.ErrArg, d.Append("", "x"), d.Append("A", ""), d.Truncate("a", -1), d.Truncate("a", 5), d.Rename("a", "a"), d.Rename("a", ""), d.Remove(""))
		tells(t, api.ErrNone, d.Truncate("c", 0), d.Rename("c", "a"), d.Remove("c"))
		tells(t, api.ErrFull, d.Append("a", "x"), d.Append("c", "x"))
		tells(t, api.ErrArg, d.Flip("a", 4, 0), d.Room(-1))
		fine(t, d.Flip("a", 0, 0), d.Flip("a", 0, 0), d.Room(6))
		has(t, d, "a:abcd b:ef")
		loose(t, d, 0)
	}
	for n := range 3 {
		fine(t, d.Fuse(n))
		for range n {
			ask()
			fine(t, d.Sync())
		}
		ask()
		tells(t, api.ErrDown, d.Sync(), d.Flip("a", 0, 0))
		fine(t, d.Fuse(-1))
		ask()
	}
}

// P2.4: a fuse stands in the place of another one; below 0 there is none; a disk that stands still stays so, but then.
func TestFuseAgain(t *testing.T) {
	d := fresh(t, 99)
	fine(t, d.Fuse(1), d.Fuse(3), d.Sync(), d.Sync(), d.Fuse(2), d.Sync(), d.Sync())
	tells(t, api.ErrDown, d.Sync())
	for _, n := range []int{0, 1, 5, math.MaxInt} {
		fine(t, d.Fuse(n))
		tells(t, api.ErrDown, d.Sync(), d.Append("a", "x"))
	}
	fine(t, d.Fuse(-1))
	for range 20 {
		fine(t, d.Append("a", "x"), d.Sync())
	}
	fine(t, d.Fuse(0), d.Fuse(math.MinInt), d.Sync(), d.Fuse(math.MaxInt), d.Sync(), d.Sync())
	has(t, d, "a:"+strings.Repeat("x", 20))
}

// P2.4: what needs no disk that goes on works on one that stands still.
func TestStill(t *testing.T) {
	d := fresh(t, 9)
	fine(t, d.Append("a", "123"), d.Sync(), d.Append("b", "45"), d.Append("b", "6"), d.Fuse(0))
	tells(t, api.ErrDown, d.Sync())
	if strings.Join(d.Names(), " ") != "a b" || d.Used() != 6 {
		t.Errorf("%q %d", d.Names(), d.Used())
	}
	loose(t, d, 2)
	fine(t, d.Room(3), d.Crash(1, 0))
	has(t, d, "a:123 b:45")
	tells(t, api.ErrFull, d.Append("b", "6"))
	fine(t, d.Append("b", ""), d.Sync())
}

// P2.4: what stays of the loose calls, and of the next one, if it is an Append.
func TestCrash(t *testing.T) {
	for _, x := range []struct {
		keep, torn int
		want       string
	}{
		{math.MinInt, 0, "a:abcd b:ef"},
		{-1, 0, "a:abcd b:ef"},
		{-1, 2, "a:abcdUV b:ef"},
		{0, math.MinInt, "a:abcd b:ef"},
		{0, -1, "a:abcd b:ef"},
		{0, 0, "a:abcd b:ef"},
		{0, 1, "a:abcdU b:ef"},
		{0, 3, "a:abcdUVW b:ef"},
		{0, 4, "a:abcdUVW b:ef"},
		{0, math.MaxInt, "a:abcdUVW b:ef"},
		{1, 0, "a:abcdUVW b:ef"},
		{1, 9, "a:abcdUVW b:ef"},
		{2, 0, "a:ab b:ef"},
		{2, 9, "a:ab b:ef"},
		{3, 0, "b:ab"},
		{3, 1, "a:x b:ab"},
		{3, 2, "a:xy b:ab"},
		{4, 0, "a:xy b:ab"},
		{4, 1, "a:xy b:ab"},
		{5, 0, "a:xy"},
		{5, 1, "a:xy c:"},
		{5, 0, "a:xy"},
		{6, 0, "a:xy c:"},
		{6, 1, "a:xyz c:"},
		{7, 0, "a:xyz c:"},
		{7, 9, "a:xyz c:"},
		{8, 1, "a:xyz c:"},
		{math.MaxInt, math.MaxInt, "a:xyz c:"},
	} {
		d := made(t)
		fine(t, d.Room(99), d.Append("a", "UVW"), d.Truncate("a", 2), d.Rename("a", "b"), d.Append("a", "xy"), d.Remove("b"), d.Append("c", ""), d.Append("a", "z"))
		loose(t, d, 7)
		fine(t, d.Crash(x.keep, x.torn))
		has(t, d, x.want)
		loose(t, d, 0)
		fine(t, d.Crash(9, 9), d.Crash(0, 0))
		has(t, d, x.want)
		fine(t, d.Append("a", "!"), d.Append("b", "!"), d.Crash(0, 0))
		has(t, d, x.want)
	}
}

// P2.4: a torn Append of no byte makes the file all the same, a torn one of some makes it with these.
func TestCrashMakes(t *testing.T) {
	for torn, want := range []string{"", "a:x", "a:xy", "a:xy"} {
		d := fresh(t, 9)
		fine(t, d.Append("a", "xy"), d.Crash(0, torn))
		has(t, d, want)
	}
	d := fresh(t, 0)
	fine(t, d.Append("a", ""), d.Crash(0, 0))
	has(t, d, "")
	fine(t, d.Append("a", ""), d.Crash(0, 1))
	has(t, d, "a:")
}

// P2.4: behind a crash there is no fuse, and the disk goes on, whether it stood still or not yet.
func TestCrashFuse(t *testing.T) {
	d := fresh(t, 99)
	fine(t, d.Fuse(1), d.Append("a", "x"))
	tells(t, api.ErrDown, d.Append("a", "y"))
	fine(t, d.Crash(9, 0))
	has(t, d, "a:x")
	fine(t, d.Fuse(0), d.Crash(0, 0))
	for range 9 {
		fine(t, d.Append("a", "z"), d.Sync())
	}
	fine(t, d.Fuse(2), d.Sync(), d.Crash(0, 0), d.Sync(), d.Sync(), d.Sync())
	has(t, d, "a:xzzzzzzzzz")
}

// P2.4: what a call at the end of a fuse would have done is not loose: no crash brings it.
func TestCrashDown(t *testing.T) {
	d := fresh(t, 99)
	fine(t, d.Append("a", "1"), d.Sync(), d.Append("a", "2"), d.Fuse(0))
	tells(t, api.ErrDown, d.Append("a", "3"), d.Append("b", "4"), d.Sync())
	fine(t, d.Crash(1, 9))
	has(t, d, "a:12")
}

// P2.4: a bit is turned, the lowest one is 0, and no other one; turned again it is as it was.
func TestFlip(t *testing.T) {
	d := made(t)
	for off := range 4 {
		for bit := range 8 {
			text := []byte("abcd")
			text[off] ^= 1 << bit
			fine(t, d.Flip("a", off, bit))
			has(t, d, "a:"+string(text)+" b:ef")
			fine(t, d.Flip("a", off, bit))
			has(t, d, "a:abcd b:ef")
		}
	}
	fine(t, d.Flip("b", 1, 0), d.Flip("b", 0, 7))
	has(t, d, "a:abcd b:\xe5g")
	loose(t, d, 0)
}

// P2.4: it is turned for good: no crash brings back what was, and what comes behind it stands on it.
func TestFlipForGood(t *testing.T) {
	d := made(t)
	fine(t, d.Room(99), d.Flip("a", 3, 0), d.Crash(0, 0))
	has(t, d, "a:abce b:ef")
	fine(t, d.Flip("a", 0, 1), d.Append("a", "x"), d.Crash(0, 0))
	has(t, d, "a:cbce b:ef")
	fine(t, d.Append("a", "x"), d.Sync(), d.Flip("a", 4, 0), d.Append("a", "z"), d.Rename("b", "c"), d.Crash(1, 0))
	has(t, d, "a:cbceyz b:ef")
	fine(t, d.Flip("a", 5, 1), d.Append("a", "!"), d.Sync(), d.Crash(0, 0))
	has(t, d, "a:cbceyx! b:ef")
}

// P2.4: bits, and bytes below 0; no such file; a byte that it has not; a loose call: in this order.
func TestFlipWrong(t *testing.T) {
	d := made(t)
	fine(t, d.Append("empty", ""), d.Sync())
	for _, calls := range []int{0, 1} { // with nothing loose, and with a call
		if calls == 1 {
			fine(t, d.Append("b", ""))
		}
		loose(t, d, calls)
		for _, bit := range []int{-1, 8, 9, math.MinInt, math.MaxInt} {
			tells(t, api.ErrArg, d.Flip("a", 0, bit), d.Flip("none", 0, bit), d.Flip("a", 4, bit))
		}
		tells(t, api.ErrArg, d.Flip("a", -1, 0), d.Flip("none", -1, 0), d.Flip("a", math.MinInt, 7))
		tells(t, api.ErrNone, d.Flip("none", 0, 0), d.Flip("none", 9, 7))
		tells(t, api.ErrArg, d.Flip("a", 4, 0), d.Flip("a", math.MaxInt, 7), d.Flip("b", 2, 0), d.Flip("empty", 0, 0))
		if calls == 1 {
			tells(t, api.ErrLoose, d.Flip("a", 0, 0), d.Flip("a", 3, 7), d.Flip("b", 1, 0))
		}
		has(t, d, "a:abcd b:ef empty:")
	}
	fine(t, d.Sync(), d.Flip("a", 3, 7))
	has(t, d, "a:abc\xe4 b:ef empty:")
}

// P2.4: with a call loose, the files that Flip asks are as they are now.
func TestFlipLoose(t *testing.T) {
	d := made(t)
	fine(t, d.Truncate("a", 1), d.Rename("b", "c"))
	tells(t, api.ErrArg, d.Flip("a", 1, 0))
	tells(t, api.ErrNone, d.Flip("b", 0, 0))
	tells(t, api.ErrLoose, d.Flip("a", 0, 0), d.Flip("c", 0, 0))
	fine(t, d.Crash(0, 0), d.Flip("a", 1, 0), d.Flip("b", 0, 0))
	has(t, d, "a:accd b:df")
}

// The chapter's examples.
func TestExamples(t *testing.T) {
	for _, x := range []struct {
		keep, torn int
		want       string
	}{{1, 0, "a:xyzw"}, {0, 1, "a:xyz"}, {9, 0, "b:xyzw"}} {
		d := fresh(t, 99)
		fine(t, d.Append("a", "xy"), d.Sync(), d.Append("a", "zw"), d.Rename("a", "b"), d.Crash(x.keep, x.torn))
		has(t, d, x.want)
	}
	d := fresh(t, 99)
	fine(t, d.Fuse(1), d.Append("a", "x"))
	tells(t, api.ErrDown, d.Sync())
	if s, e := d.Read("a", 0, 9); s != "" || e != api.ErrDown {
		t.Errorf("%q %v", s, e)
	}
}
