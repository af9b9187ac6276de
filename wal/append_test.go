package wal_test

import (
	"slices"
	"strings"
	"testing"

	"fascicle/api"
	"fascicle/disk"
	"fascicle/wal"
)

// P8.2: of no record nothing is done: no file is made, what is loose stays so, no fuse is burnt, and a disk that stands still is not asked.
func TestAppendNone(t *testing.T) {
	d := fresh(t, 0)
	w := opened(t, d, "w")
	for range 2 {
		before := seen(t, d)
		burns(t, d, 0, func() {
			fine(t, w.Append(), w.Append([]string{}...), w.Append([]string(nil)...))
		})
		fine(t, d.Fuse(0))
		tells(t, api.ErrDown, d.Sync())
		fine(t, w.Append())
		has(t, w)
		fine(t, d.Fuse(-1))
		if after := seen(t, d); after != before {
			t.Fatalf("%s, not %s", after, before)
		}
		missing(t, d, "w")
		fine(t, d.Append("loose", ""))
	}
}

// P8.2, P8.3: records of all kinds stand in the file, for good, behind those that were there; by two calls of the disk, however many they are.
func TestAppend(t *testing.T) {
	for _, old := range [][]string{nil, {""}, {"a", "bc"}} {
		for _, l := range lists() {
			d := fresh(t, room)
			if old != nil {
				d = laid(t, "w", framed(old...))
			}
			w := opened(t, d, "w", old...)
			all := slices.Concat(old, l)
			calls := 2
			if len(l) == 0 {
				calls = 0
			}
			burns(t, d, calls, func() { fine(t, w.Append(l...)) })
			has(t, w, all...)
			if len(all) > 0 {
				forGood(t, d, "w", framed(all...))
			}
			burns(t, d, 2, func() { fine(t, w.Append("more")) })
			all = append(all, "more")
			has(t, w, all...)
			forGood(t, d, "w", framed(all...))
			opened(t, d, "w", all...)
		}
	}
}

// P8.2: the frames are appended by one call: behind a crash that tears it any of its bytes may be there.
func TestAppendOneCall(t *testing.T) {
	l := []string{"a", "", "bcd"}
	all := framed(l...)
	for torn := range len(all) + 2 {
		d := laid(t, "w", framed("old"))
		w := opened(t, d, "w", "old")
		fine(t, d.Fuse(1))
		tells(t, api.ErrDown, w.Append(l...))
		if d.Loose() != 1 {
			t.Fatalf("loose %d", d.Loose())
		}
		fine(t, d.Crash(0, torn))
		file(t, d, "w", framed("old")+all[:min(torn, len(all))])
	}
}

// P8.2: the list is as it was, and is not kept.
func TestAppendList(t *testing.T) {
	d := fresh(t, room)
	w := opened(t, d, "w")
	l := []string{"a", "", "b"}
	fine(t, w.Append(l...))
	if !slices.Equal(l, []string{"a", "", "b"}) {
		t.Fatalf("%q", l)
	}
	clear(l)
	fine(t, w.Append("c"))
	opened(t, d, "w", "a", "", "b", "c")
}

// P8.2: a record that is too long, at each place: ErrLong, ahead of a want of room and of a fuse, and nothing has changed.
func TestAppendLong(t *testing.T) {
	for _, n := range []int{room, 40, 14} {
		d := fresh(t, n)
		w := opened(t, d, "w")
		fine(t, w.Append("a"), d.Append("loose", "x"))
		before := seen(t, d)
		for many := 1; many <= 3; many++ {
			for at := range many {
				l := slices.Repeat([]string{"b"}, many)
				l[at] = tooLong
				burns(t, d, 0, func() { tells(t, api.ErrLong, w.Append(l...)) })
				has(t, w, "a")
				if after := seen(t, d); after != before {
					t.Fatalf("%s, not %s", after, before)
				}
			}
		}
		tells(t, api.ErrLong, w.Append(tooLong, tooLong), w.Append(tooLong+"a"))
		fine(t, d.Room(room), w.Append("b"))
		has(t, w, "a", "b")
		opened(t, d, "w", "a", "b")
	}
}

// P8.2: a record that is as long as any may be, at each place.
func TestAppendLongest(t *testing.T) {
	d := fresh(t, api.MaxRoom)
	w := opened(t, d, "w")
	longest := tooLong[1:]
	fine(t, w.Append(longest), w.Append("a", longest), w.Append(longest, "b"))
	has(t, w, longest, "a", longest, longest, "b")
	opened(t, d, "w", longest, "a", longest, longest, "b")
	tells(t, api.ErrFull, w.Append("", longest))
	tells(t, api.ErrLong, w.Append("", tooLong))
	has(t, w, longest, "a", longest, longest, "b")
}

// P8.2: where there is no room: ErrFull, and nothing has changed; the wal is not down, and goes on with less, or once there is room.
func TestAppendFull(t *testing.T) {
	for _, l := range [][]string{{""}, {"b"}, {"b", "", "cd"}} {
		need := len(framed("a")) + len(framed(l...)) + 1 // with the byte that is loose
		for n := len(framed("a")) + 1; n < need; n++ {
			d := fresh(t, n)
			w := opened(t, d, "w")
			fine(t, w.Append("a"), d.Append("loose", "x"))
			before := seen(t, d)
			burns(t, d, 0, func() { tells(t, api.ErrFull, w.Append(l...), w.Append(l...)) })
			has(t, w, "a")
			if after := seen(t, d); after != before {
				t.Fatalf("%s, not %s", after, before)
			}
			fine(t, w.Append(), d.Room(need), w.Append(l...))
			has(t, w, append([]string{"a"}, l...)...)
			if d.Used() != need {
				t.Fatalf("used %d, not %d", d.Used(), need)
			}
			forGood(t, d, "w", framed(append([]string{"a"}, l...)...))
			tells(t, api.ErrFull, w.Append(""))
			fine(t, w.Reset(), w.Append("c"))
			has(t, w, "c")
			opened(t, d, "w", "c")
		}
	}
}

// P8.2, P8.3: an Append that found no room makes no file; a disk without room has wals, too.
func TestAppendNoRoom(t *testing.T) {
	d := fresh(t, 11)
	w := opened(t, d, "w")
	tells(t, api.ErrFull, w.Append(""), w.Append("a", "b"))
	missing(t, d, "w")
	has(t, w)
	fine(t, w.Reset(), d.Room(12), w.Append(""))
	has(t, w, "")
	forGood(t, d, "w", framed(""))
}

// P8.2, P8.3: with the fuse at each call of an Append: the wal is down, has what it had, and does nothing any more.
func TestAppendFuse(t *testing.T) {
	for _, old := range [][]string{nil, {"a", ""}} {
		for _, l := range [][]string{{""}, {"b"}, {"b", "", "cd"}} {
			d, w := walOf(t, old...)
			before := seen(t, d)
			fine(t, d.Fuse(0))
			tells(t, api.ErrDown, w.Append(l...))
			stuck(t, d, w, old...)
			if after := seen(t, d); after != before {
				t.Fatalf("%s, not %s", after, before)
			}
			opened(t, d, "w", old...)

			all := slices.Concat(old, l)
			d, w = walOf(t, old...)
			fine(t, d.Fuse(1))
			tells(t, api.ErrDown, w.Append(l...))
			stuck(t, d, w, old...)
			file(t, d, "w", framed(all...))
			if d.Loose() != 1 {
				t.Fatalf("loose %d", d.Loose())
			}
			fine(t, d.Crash(0, 0))
			stuck(t, d, w, old...)
			opened(t, d, "w", old...)

			d, w = walOf(t, old...)
			burns(t, d, 2, func() { fine(t, w.Append(l...)) })
			has(t, w, all...)
			forGood(t, d, "w", framed(all...))
		}
	}
}

// walOf is a wal with these records, opened with half of them, and its disk.
func walOf(t *testing.T, l ...string) (*disk.Disk, *wal.Wal) {
	t.Helper()
	d := fresh(t, room)
	half := l[:len(l)/2]
	if len(half) > 0 {
		d = laid(t, "w", framed(half...))
	}
	w := opened(t, d, "w", half...)
	fine(t, w.Append(l[len(half):]...))
	has(t, w, l...)
	return d, w
}

// P8.2: a disk that stands still already puts the wal down, whatever the record is but too long.
func TestAppendStill(t *testing.T) {
	d, w := walOf(t, "a")
	fine(t, d.Room(20), d.Fuse(0))
	tells(t, api.ErrDown, d.Sync())
	tells(t, api.ErrLong, w.Append(tooLong))
	fine(t, w.Append())
	has(t, w, "a")
	tells(t, api.ErrDown, w.Append(strings.Repeat("b", 20)))
	stuck(t, d, w, "a")
	forGood(t, d, "w", framed("a"))
}

// P8.2: one that is down stays so behind a crash, and behind other wals of its file; another one goes on.
func TestDownStays(t *testing.T) {
	d, w := walOf(t, "a")
	fine(t, d.Fuse(1))
	tells(t, api.ErrDown, w.Append("b"))
	fine(t, d.Crash(9, 0))
	stuck(t, d, w, "a")
	x := opened(t, d, "w", "a", "b")
	fine(t, x.Append("c"))
	stuck(t, d, w, "a")
	opened(t, d, "w", "a", "b", "c")
	fine(t, x.Reset())
	stuck(t, d, w, "a")
	missing(t, d, "w")
}

// P8.2: a wal that is not down goes on behind a crash of its disk: nothing of it was loose.
func TestAppendBehindCrash(t *testing.T) {
	d, w := walOf(t, "a", "b")
	fine(t, d.Append("other", "x"), d.Crash(0, 1), w.Append("c"), d.Crash(0, 0), d.Fuse(3), d.Crash(0, 0), w.Append("d"))
	has(t, w, "a", "b", "c", "d")
	forGood(t, d, "w", framed("a", "b", "c", "d"))
	opened(t, d, "w", "a", "b", "c", "d")
}

// P8.2: the Sync of an Append makes sure what else is loose.
func TestAppendSyncsAll(t *testing.T) {
	d, w := walOf(t)
	fine(t, d.Append("other", "x"), w.Append("a"), d.Crash(0, 0))
	file(t, d, "other", "x")
	file(t, d, "w", framed("a"))
}

// P8.3: what else is done to the file does not count.
func TestElse(t *testing.T) {
	d, w := walOf(t, "a", "b")
	for _, do := range []func() api.Errno{
		func() api.Errno { return d.Append("w", framed("c")) },
		func() api.Errno { return d.Append("w", "bad bytes") },
		func() api.Errno { return d.Truncate("w", 3) },
		func() api.Errno { return d.Truncate("w", 0) },
		func() api.Errno { return d.Remove("w") },
		func() api.Errno { return d.Append("w", framed("c", "d", "e")) },
		func() api.Errno { return d.Rename("w", "other") },
	} {
		fine(t, do())
		has(t, w, "a", "b")
	}
	fine(t, w.Append("f"))
	has(t, w, "a", "b", "f")
	opened(t, d, "w", "f")
	has(t, w, "a", "b", "f")
}

// Many records, each for good: what an Append costs hangs on what it puts, not on what is there.
func TestMany(t *testing.T) {
	d := fresh(t, api.MaxRoom)
	w := opened(t, d, "w")
	var l []string
	for i := range 20000 {
		l = append(l, letters(i%50))
		fine(t, w.Append(l[i]))
	}
	if w.Len() != 20000 || w.Size() != 20000*12+400*49*25 {
		t.Fatalf("Len %d, Size %d", w.Len(), w.Size())
	}
	opened(t, d, "w", l...)
}
