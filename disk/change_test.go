package disk_test

import (
	"math"
	"strings"
	"testing"

	"fascicle/api"
	"fascicle/disk"
)

// made is a disk with two synced files, and no room for more.
func made(t *testing.T) *disk.Disk {
	t.Helper()
	d := fresh(t, 6)
	fine(t, d.Append("a", "abcd"), d.Append("b", "ef"), d.Sync())
	return d
}

// named has each call with a name, and with others that may be, where it has two.
func named(d *disk.Disk) map[string]func(name string) api.Errno {
	return map[string]func(name string) api.Errno{
		"Append":      func(name string) api.Errno { return d.Append(name, "x") },
		"Append none": func(name string) api.Errno { return d.Append(name, "") },
		"Truncate":    func(name string) api.Errno { return d.Truncate(name, 0) },
		"Rename from": func(name string) api.Errno { return d.Rename(name, "b") },
		"Rename to":   func(name string) api.Errno { return d.Rename("a", name) },
		"Remove":      d.Remove,
		"Flip":        func(name string) api.Errno { return d.Flip(name, 0, 0) },
		"Read": func(name string) api.Errno {
			_, e := d.Read(name, 0, 9)
			return e
		},
		"Size": func(name string) api.Errno {
			_, e := d.Size(name)
			return e
		},
	}
}

// P2.2, P2.3, P2.4: names that may not be are ErrArg in each call, and nothing is done; a file that is not there does not matter.
func TestNamesWrong(t *testing.T) {
	d := made(t)
	for _, name := range badNames() {
		for call, do := range named(d) {
			if e := do(name); e != api.ErrArg {
				t.Errorf("%s of %q: %v, not ErrArg", call, name, e)
			}
		}
		// The name that may not be is told ahead of the file that is not there, and of the other name.
		tells(t, api.ErrArg, d.Rename("none", name), d.Rename(name, "none"), d.Rename(name, name))
	}
	loose(t, d, 0)
	has(t, d, "a:abcd b:ef")
}

// P2.2, P2.3, P2.4: names that may be are taken by each call.
func TestNamesRight(t *testing.T) {
	for _, name := range goodNames() {
		d := fresh(t, 9)
		fine(t, d.Append(name, "xy"), d.Truncate(name, 1), d.Rename(name, "other"), d.Rename("other", name), d.Sync(), d.Flip(name, 0, 0))
		has(t, d, name+":y")
		fine(t, d.Remove(name))
		has(t, d, "")
	}
}

// P2.2: what is appended stands behind what is there; a file that is not there is made, also of no byte.
func TestAppend(t *testing.T) {
	d := fresh(t, 99)
	fine(t, d.Append("a", "xy"))
	has(t, d, "a:xy")
	fine(t, d.Append("a", "z"), d.Append("b", "\x00\xff"), d.Append("a", ""), d.Append("c", ""))
	has(t, d, "a:xyz b:\x00\xff c:")
	fine(t, d.Append("c", "1"), d.Append("c", "2"), d.Sync(), d.Append("c", "3"), d.Append("a", "w"))
	has(t, d, "a:xyzw b:\x00\xff c:123")
}

// P2.2: room counts all files; a full disk takes no byte more, but an Append of none; one that has no room changes nothing.
func TestAppendFull(t *testing.T) {
	d := fresh(t, 5)
	fine(t, d.Append("a", "12"))
	tells(t, api.ErrFull, d.Append("b", "3456"), d.Append("a", "3456"))
	has(t, d, "a:12")
	loose(t, d, 1)
	fine(t, d.Append("b", "345"))
	tells(t, api.ErrFull, d.Append("b", "6"), d.Append("c", "6"))
	has(t, d, "a:12 b:345")
	fine(t, d.Append("b", ""), d.Append("c", ""))
	has(t, d, "a:12 b:345 c:")
	loose(t, d, 4)
	fine(t, d.Truncate("a", 1), d.Append("c", "6"))
	tells(t, api.ErrFull, d.Append("c", "7"))
	fine(t, d.Rename("c", "b"), d.Append("d", "789"))
	tells(t, api.ErrFull, d.Append("d", "0"))
	fine(t, d.Remove("d"), d.Append("b", "789"))
	has(t, d, "a:1 b:6789")
	tells(t, api.ErrFull, d.Append("b", "0"))
}

// P2.2: a disk of room 0 has files without bytes.
func TestAppendNoRoom(t *testing.T) {
	d := fresh(t, 0)
	fine(t, d.Append("a", ""))
	tells(t, api.ErrFull, d.Append("a", "x"), d.Append("b", "x"))
	has(t, d, "a:")
}

// P2.2: the first n bytes stay: none, some, all; what is appended then stands behind them.
func TestTruncate(t *testing.T) {
	for n, want := range []string{"", "a", "ab", "abc", "abcd"} {
		d := made(t)
		fine(t, d.Truncate("a", n))
		has(t, d, "a:"+want+" b:ef")
		loose(t, d, 1)
		fine(t, d.Room(99), d.Append("a", "XYZ"))
		has(t, d, "a:"+want+"XYZ b:ef")
		fine(t, d.Crash(1, 2))
		has(t, d, "a:"+want+"XY b:ef")
		fine(t, d.Append("a", "Q"), d.Crash(0, 0))
		has(t, d, "a:"+want+"XY b:ef")
	}
}

// P2.2: more than the file has, below 0, no such file: in this order.
func TestTruncateWrong(t *testing.T) {
	d := made(t)
	tells(t, api.ErrArg, d.Truncate("a", -1), d.Truncate("a", math.MinInt), d.Truncate("none", -1), d.Truncate("a", 5), d.Truncate("b", 3), d.Truncate("a", math.MaxInt))
	tells(t, api.ErrNone, d.Truncate("none", 0), d.Truncate("none", 1), d.Truncate("none", math.MaxInt))
	loose(t, d, 0)
	has(t, d, "a:abcd b:ef")
	fine(t, d.Truncate("b", 0))
	tells(t, api.ErrArg, d.Truncate("b", 1))
	fine(t, d.Truncate("b", 0))
	has(t, d, "a:abcd b:")
}

// P2.2: to is what from was, whether it was there or not, and from is not there.
func TestRename(t *testing.T) {
	d := made(t)
	fine(t, d.Rename("a", "c"))
	has(t, d, "b:ef c:abcd")
	fine(t, d.Rename("c", "b"))
	has(t, d, "b:abcd")
	if d.Used() != 4 {
		t.Errorf("used %d", d.Used())
	}
	fine(t, d.Append("a", "x"), d.Append("b", "y"))
	has(t, d, "a:x b:abcdy")
	fine(t, d.Append("empty", ""), d.Rename("empty", "b"))
	has(t, d, "a:x b:")
	fine(t, d.Rename("a", "b"))
	has(t, d, "b:x")
	loose(t, d, 7)
}

// P2.2: one name twice is ErrArg, whether the file is there or not; from is asked, not to.
func TestRenameWrong(t *testing.T) {
	d := made(t)
	tells(t, api.ErrArg, d.Rename("a", "a"), d.Rename("none", "none"))
	tells(t, api.ErrNone, d.Rename("none", "a"), d.Rename("none", "other"))
	loose(t, d, 0)
	has(t, d, "a:abcd b:ef")
}

// P2.2: what is removed is not there, and is begun anew.
func TestRemove(t *testing.T) {
	d := made(t)
	fine(t, d.Remove("a"))
	has(t, d, "b:ef")
	tells(t, api.ErrNone, d.Remove("a"), d.Remove("none"), d.Truncate("a", 0), d.Rename("a", "b"))
	fine(t, d.Append("a", "1"), d.Append("a", "2"))
	has(t, d, "a:12 b:ef")
	fine(t, d.Remove("a"), d.Remove("b"))
	has(t, d, "")
	loose(t, d, 5)
}

// P2.2: behind a Sync nothing is loose, and a crash leaves all.
func TestSync(t *testing.T) {
	d := made(t)
	fine(t, d.Crash(0, 0))
	has(t, d, "a:abcd b:ef")
	fine(t, d.Truncate("a", 3), d.Append("a", "X"), d.Rename("b", "c"), d.Remove("a"), d.Append("a", "new"))
	loose(t, d, 5)
	fine(t, d.Sync())
	loose(t, d, 0)
	fine(t, d.Crash(-1, 0))
	has(t, d, "a:new c:ef")
	fine(t, d.Sync(), d.Sync(), d.Crash(0, 9))
	has(t, d, "a:new c:ef")
}

// A disk that stands still tells ErrDown ahead of all but ErrNil: names, arguments, files that are not there, no room, loose calls.
func TestDownFirst(t *testing.T) {
	for _, n := range []int{0, 1} { // with nothing loose, and with a call
		d := made(t)
		fine(t, d.Fuse(n))
		if n == 1 {
			fine(t, d.Append("a", ""))
		}
		tells(t, api.ErrDown, d.Sync())
		for _, name := range []string{"", "A", "a", "b", "none", strings.Repeat("a", 65)} {
			tells(t, api.ErrDown, d.Append(name, ""), d.Append(name, "too much"), d.Truncate(name, 0), d.Truncate(name, -1), d.Truncate(name, 9),
				d.Rename(name, "b"), d.Rename(name, name), d.Rename("none", name), d.Remove(name),
				d.Flip(name, 0, 0), d.Flip(name, -1, 0), d.Flip(name, 9, 0), d.Flip(name, 0, 8))
			for _, k := range []int{-1, 0, 1} {
				if s, e := d.Read(name, k, 1); s != "" || e != api.ErrDown {
					t.Errorf("Read: %q %v", s, e)
				}
				if s, e := d.Read(name, 1, k); s != "" || e != api.ErrDown {
					t.Errorf("Read: %q %v", s, e)
				}
			}
			if k, e := d.Size(name); k != 0 || e != api.ErrDown {
				t.Errorf("Size: %d %v", k, e)
			}
		}
		loose(t, d, n)
		fine(t, d.Fuse(-1))
		has(t, d, "a:abcd b:ef")
	}
}
