package wal_test

import (
	"testing"

	"fascicle/api"
)

// P8.2, P8.3: a file that is there is removed, for good, by two calls of the disk; there are no records then, and it goes on.
func TestReset(t *testing.T) {
	for _, l := range lists() {
		d, w := walOf(t, l...)
		if len(l) == 0 {
			fine(t, d.Append("w", ""), d.Sync())
		}
		burns(t, d, 2, func() { fine(t, w.Reset()) })
		has(t, w)
		if d.Loose() != 0 {
			t.Fatalf("loose %d", d.Loose())
		}
		fine(t, d.Crash(0, 0))
		missing(t, d, "w")
		fine(t, w.Append("x", ""))
		has(t, w, "x", "")
		forGood(t, d, "w", framed("x", ""))
		opened(t, d, "w", "x", "")
		fine(t, w.Reset())
		has(t, w)
		opened(t, d, "w")
	}
}

// P8.2: of a file that is not there nothing is done: no fuse is burnt, and what is loose stays so.
func TestResetNone(t *testing.T) {
	d, w := walOf(t)
	for loose := range 3 {
		before := seen(t, d)
		burns(t, d, 0, func() { fine(t, w.Reset(), w.Reset()) })
		has(t, w)
		if after := seen(t, d); after != before || d.Loose() != loose {
			t.Fatalf("%s, not %s", after, before)
		}
		fine(t, d.Append("other", "x"))
	}
	fine(t, w.Append("a"), w.Reset())
	burns(t, d, 0, func() { fine(t, w.Reset()) })
	has(t, w)
}

// P8.2, P8.3: a file that somebody else took away is not there: the wal has no records then.
func TestResetTakenAway(t *testing.T) {
	d, w := walOf(t, "a", "b")
	fine(t, d.Remove("w"))
	has(t, w, "a", "b")
	fine(t, w.Reset())
	has(t, w)
	if d.Loose() != 1 {
		t.Fatalf("loose %d", d.Loose())
	}
}

// P8.2: a file that somebody else made, or spoilt, is removed too.
func TestResetElse(t *testing.T) {
	for _, text := range []string{"", "x", "bad bytes of a file", framed("a", "b")} {
		d, w := walOf(t)
		fine(t, d.Append("w", text))
		burns(t, d, 2, func() { fine(t, w.Reset()) })
		has(t, w)
		fine(t, d.Crash(0, 0))
		missing(t, d, "w")
	}
}

// P8.2, P8.3: with the fuse at each call of a Reset: the wal is down, has what it had, and does nothing any more.
func TestResetFuse(t *testing.T) {
	for _, l := range [][]string{{""}, {"a"}, {"a", "", "bcd"}} {
		d, w := walOf(t, l...)
		before := seen(t, d)
		fine(t, d.Fuse(0))
		tells(t, api.ErrDown, w.Reset())
		stuck(t, d, w, l...)
		if after := seen(t, d); after != before {
			t.Fatalf("%s, not %s", after, before)
		}
		opened(t, d, "w", l...)

		for keep := range 2 {
			d, w = walOf(t, l...)
			fine(t, d.Fuse(1))
			tells(t, api.ErrDown, w.Reset())
			stuck(t, d, w, l...)
			missing(t, d, "w")
			if d.Loose() != 1 {
				t.Fatalf("loose %d", d.Loose())
			}
			fine(t, d.Crash(keep, 9))
			stuck(t, d, w, l...)
			if keep == 0 {
				opened(t, d, "w", l...)
			} else {
				opened(t, d, "w")
			}
		}
	}
}

// P8.2: a disk that stands still does not tell whether the file is there: the wal is down.
func TestResetStill(t *testing.T) {
	for _, l := range [][]string{nil, {"a"}} {
		d, w := walOf(t, l...)
		before := seen(t, d)
		fine(t, d.Fuse(0))
		tells(t, api.ErrDown, d.Sync())
		has(t, w, l...)
		tells(t, api.ErrDown, w.Reset())
		stuck(t, d, w, l...)
		if after := seen(t, d); after != before {
			t.Fatalf("%s, not %s", after, before)
		}
	}
}

// P8.2: the Sync of a Reset makes sure what else is loose; a Reset needs no room.
func TestResetSyncsAll(t *testing.T) {
	d, w := walOf(t, "a")
	fine(t, d.Append("other", "x"), d.Room(0), w.Reset(), d.Crash(0, 0))
	missing(t, d, "w")
	file(t, d, "other", "x")
	tells(t, api.ErrFull, w.Append(""))
	has(t, w)
}

// P8.2: Reset and Append by turns, over and over.
func TestResetTurns(t *testing.T) {
	d, w := walOf(t)
	for range 50 {
		fine(t, w.Append("a"), w.Append("b", "c"))
		has(t, w, "a", "b", "c")
		fine(t, w.Reset())
		has(t, w)
		fine(t, w.Append("d"))
		has(t, w, "d")
		fine(t, w.Reset(), w.Reset())
	}
	missing(t, d, "w")
	opened(t, d, "w")
}
