package wal_test

import (
	"slices"
	"strings"
	"testing"

	"fascicle/api"
	"fascicle/disk"
	"fascicle/wal"
)

// wrongNames may not be.
func wrongNames() []string {
	return []string{"", "A", "a_b", "a b", "a/b", "\x00", "\xff", "\u00e9", strings.Repeat("a", 65), strings.Repeat("a", 1000)}
}

// P8.1: no disk, whatever the name.
func TestOpenNoDisk(t *testing.T) {
	for _, name := range append(wrongNames(), "w", strings.Repeat("a", 64)) {
		refused(t, nil, name, api.ErrNil)
	}
}

// P8.1: a file that is not there has no records; it is not made, and nothing is done.
func TestOpenNone(t *testing.T) {
	d := laid(t, "other", "x")
	before := seen(t, d)
	burns(t, d, 0, func() { opened(t, d, "w") })
	if after := seen(t, d); after != before {
		t.Fatalf("%s, not %s", after, before)
	}
	missing(t, d, "w")
	opened(t, fresh(t, 0), "w")
	opened(t, fresh(t, 0), strings.Repeat("z", 64))
}

// P8.1: a file of no byte has no records, and stays.
func TestOpenEmpty(t *testing.T) {
	d := laid(t, "w", "")
	burns(t, d, 0, func() { opened(t, d, "w") })
	forGood(t, d, "w", "")
}

// P8.1: the records of whole frames, in order; where nothing is loose nothing is done.
func TestOpenWhole(t *testing.T) {
	for _, l := range lists() {
		d := laid(t, "w", framed(l...))
		fine(t, d.Append("other", "x"), d.Sync())
		before := seen(t, d)
		burns(t, d, 0, func() { opened(t, d, "w", l...) })
		if after := seen(t, d); after != before {
			t.Fatalf("%s, not %s", after, before)
		}
		opened(t, d, "w", l...)
	}
}

// P8.1: a file as long as any may be, whole and torn, of the longest records and of one more.
func TestOpenLongest(t *testing.T) {
	longest := letters(api.MaxFrame)
	last := letters(api.MaxRoom - 3*(api.HeadSize+api.MaxFrame) - api.HeadSize)
	l := []string{longest, longest, longest, last}
	d := laid(t, "w", framed(l...))
	if d.Used() != api.MaxRoom {
		t.Fatalf("used %d", d.Used())
	}
	opened(t, d, "w", l...)
	fine(t, d.Truncate("w", api.MaxRoom-1), d.Sync())
	opened(t, d, "w", l[:3]...)
	forGood(t, d, "w", framed(l[:3]...))
}

// P8.1: a file that is cut, at each place: the records that are whole, and the file is these, for good.
func TestOpenCut(t *testing.T) {
	for _, l := range [][]string{{""}, {"a"}, {"a", "", "bcd"}, {"", "", letters(40), "z"}} {
		all := framed(l...)
		for n := range len(all) {
			whole := wholeIn(l, n)
			good := framed(l[:whole]...)
			d := laid(t, "w", all[:n])
			opened(t, d, "w", l[:whole]...)
			file(t, d, "w", good)
			forGood(t, d, "w", good)
			burns(t, d, 0, func() { opened(t, d, "w", l[:whole]...) })
		}
	}
}

// wholeIn is how many frames of l are whole in their first n bytes.
func wholeIn(l []string, n int) int {
	whole := 0
	for whole < len(l) && len(framed(l[:whole+1]...)) <= n {
		whole++
	}
	return whole
}

// P8.1: behind a cut end Append puts what comes, and it is read.
func TestOpenCutGoesOn(t *testing.T) {
	l := []string{"a", "bcd"}
	all := framed(l...)
	for n := range len(all) {
		d := laid(t, "w", all[:n])
		whole := l[:wholeIn(l, n)]
		w := opened(t, d, "w", whole...)
		fine(t, w.Append("e", ""))
		want := append(slices.Clone(whole), "e", "")
		has(t, w, want...)
		forGood(t, d, "w", framed(want...))
		opened(t, d, "w", want...)
	}
}

// P8.1: each byte another one: ErrBad, and the disk is as it was, with something loose or nothing.
func TestOpenBad(t *testing.T) {
	l := []string{"", "a", "xyz"}
	all := framed(l...)
	for at := range all {
		for _, by := range []byte{1, 2, 0x10, 0x80, 0xff} {
			other := []byte(all)
			other[at] ^= by
			d := laid(t, "w", string(other))
			for loose := range 3 {
				before := seen(t, d)
				burns(t, d, 0, func() { refused(t, d, "w", api.ErrBad) })
				if after := seen(t, d); after != before || d.Loose() != loose {
					t.Fatalf("byte %d: %s, not %s", at, after, before)
				}
				fine(t, d.Append("other", "x"))
			}
			fine(t, d.Crash(0, 0))
			file(t, d, "w", string(other))
		}
	}
}

// P8.1: bits that a disk turned, and bad bytes behind frames or at the end of a file that is torn besides.
func TestOpenBadMore(t *testing.T) {
	all := framed("one", "", "three")
	for off := range all {
		for bit := range 8 {
			d := laid(t, "w", all)
			fine(t, d.Flip("w", off, bit))
			refused(t, d, "w", api.ErrBad)
			fine(t, d.Flip("w", off, bit))
			opened(t, d, "w", "one", "", "three")
		}
	}
	for _, more := range []string{"\x00\x00\x00\x00\x00\x00\x00\x00", letters(8), letters(100), "x" + framed("a")[1:] + "torn"} {
		d := laid(t, "w", all+more)
		refused(t, d, "w", api.ErrBad)
		forGood(t, d, "w", all+more)
	}
}

// P8.1: names that may not be; nothing is done, also where something is loose.
func TestOpenWrongName(t *testing.T) {
	d := laid(t, "a", "x")
	for range 2 {
		before := seen(t, d)
		for _, name := range wrongNames() {
			refused(t, d, name, api.ErrArg)
		}
		if after := seen(t, d); after != before {
			t.Fatalf("%s, not %s", after, before)
		}
		fine(t, d.Append("a", "loose"))
	}
}

// P8.1: a disk that stands still, whatever is on it, with something loose or nothing, and whatever the name.
func TestOpenStill(t *testing.T) {
	for _, text := range []string{"", framed("a", "b"), framed("a", "b")[:20], "bad bytes of a file"} {
		d := laid(t, "w", text)
		for range 2 {
			before := seen(t, d)
			fine(t, d.Fuse(0))
			tells(t, api.ErrDown, d.Sync())
			for _, name := range append(wrongNames(), "w", "none") {
				refused(t, d, name, api.ErrDown)
			}
			fine(t, d.Fuse(-1))
			if after := seen(t, d); after != before {
				t.Fatalf("%s, not %s", after, before)
			}
			fine(t, d.Append("loose", "x"))
		}
	}
}

// P8.1: what is torn is cut, and then the disk is synced: with the fuse at each of these.
func TestOpenFuseTorn(t *testing.T) {
	torn, good := framed("a", "b")[:20], framed("a")
	d := laid(t, "w", torn)
	fine(t, d.Fuse(0))
	refused(t, d, "w", api.ErrDown)
	refused(t, d, "w", api.ErrDown)
	fine(t, d.Fuse(-1))
	forGood(t, d, "w", torn)

	for _, x := range []struct {
		keep int
		want string
	}{{0, torn}, {1, good}} {
		d = laid(t, "w", torn)
		fine(t, d.Fuse(1))
		refused(t, d, "w", api.ErrDown)
		if d.Loose() != 1 {
			t.Fatalf("loose %d", d.Loose())
		}
		fine(t, d.Crash(x.keep, 9))
		file(t, d, "w", x.want)
		burns(t, d, 2*(1-x.keep), func() { opened(t, d, "w", "a") })
		forGood(t, d, "w", good)
	}

	d = laid(t, "w", torn)
	burns(t, d, 2, func() { opened(t, d, "w", "a") })
	forGood(t, d, "w", good)
}

// P8.1: if something is loose the disk is synced, once, whether the file is whole, not there or torn; at its fuse's end that is told.
func TestOpenLoose(t *testing.T) {
	for _, x := range []struct {
		make  func(d *disk.Disk) []api.Errno
		calls int
		want  []string
	}{
		{func(d *disk.Disk) []api.Errno { return []api.Errno{d.Append("other", "")} }, 1, []string{"a"}},
		{func(d *disk.Disk) []api.Errno { return []api.Errno{d.Append("w", framed("b"))} }, 1, []string{"a", "b"}},
		{func(d *disk.Disk) []api.Errno { return []api.Errno{d.Append("w", "")} }, 1, []string{"a"}},
		{func(d *disk.Disk) []api.Errno { return []api.Errno{d.Append("w", "x"), d.Truncate("w", 13)} }, 1, []string{"a"}},
		{func(d *disk.Disk) []api.Errno { return []api.Errno{d.Remove("w")} }, 1, nil},
		{func(d *disk.Disk) []api.Errno { return []api.Errno{d.Rename("w", "other")} }, 1, nil},
		{func(d *disk.Disk) []api.Errno { return []api.Errno{d.Truncate("w", 0)} }, 1, nil},
		{func(d *disk.Disk) []api.Errno { return []api.Errno{d.Append("w", "x")} }, 2, []string{"a"}},
		{func(d *disk.Disk) []api.Errno {
			return []api.Errno{d.Append("other", "x"), d.Append("w", framed("b")), d.Append("w", framed("c")[:9])}
		}, 2, []string{"a", "b"}},
	} {
		for n := range x.calls + 1 {
			d := laid(t, "w", framed("a"))
			fine(t, x.make(d)...)
			if n == x.calls {
				burns(t, d, n, func() { opened(t, d, "w", x.want...) })
				if d.Loose() != 0 {
					t.Fatalf("loose %d", d.Loose())
				}
				fine(t, d.Crash(0, 0))
				burns(t, d, 0, func() { opened(t, d, "w", x.want...) })
				continue
			}
			before := d.Loose()
			fine(t, d.Fuse(n))
			refused(t, d, "w", api.ErrDown)
			if d.Loose() != before+n {
				t.Fatalf("loose %d, not %d", d.Loose(), before+n)
			}
			fine(t, d.Crash(0, 0))
			file(t, d, "w", framed("a"))
		}
	}
}

// P8.1: what an Open has told is for good, also where the Append of it did not get that far.
func TestOpenMakesSure(t *testing.T) {
	d := fresh(t, room)
	w := opened(t, d, "w")
	fine(t, d.Fuse(1))
	tells(t, api.ErrDown, w.Append("a", "b"))
	fine(t, d.Fuse(-1))
	opened(t, d, "w", "a", "b")
	forGood(t, d, "w", framed("a", "b"))
}

// P8.1: several files of one disk, and several wals of one file, each of which reads what stands there.
func TestOpenSeveral(t *testing.T) {
	d := fresh(t, room)
	v, w := opened(t, d, "v"), opened(t, d, "w")
	fine(t, v.Append("1"), w.Append("2", "3"), v.Append("4"), w.Append())
	has(t, v, "1", "4")
	has(t, w, "2", "3")
	x := opened(t, d, "w", "2", "3")
	fine(t, x.Append("5"), v.Reset(), w.Append("6"))
	has(t, v)
	has(t, w, "2", "3", "6")
	has(t, x, "2", "3", "5")
	opened(t, d, "w", "2", "3", "5", "6")
	opened(t, d, "v")
}

// R5: the list of records is new each time, and is not kept.
func TestOpenNew(t *testing.T) {
	d := laid(t, "w", framed("a", "b"))
	w, l, _ := wal.Open(d, "w")
	_, other, _ := wal.Open(d, "w")
	l[0], l[1] = "z", "y"
	if !slices.Equal(other, []string{"a", "b"}) {
		t.Fatalf("%q", other)
	}
	_ = append(l[:1], "more", "and more")
	fine(t, w.Append("c"))
	has(t, w, "a", "b", "c")
	opened(t, d, "w", "a", "b", "c")
}
