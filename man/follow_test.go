package man_test

import (
	"fmt"
	"math/rand"
	"slices"
	"testing"

	"fascicle/api"
	"fascicle/disk"
	"fascicle/man"
)

// saved is what was saved under a name, last with OK, and what was being saved behind that (nil: none).
type saved struct {
	last, next *api.Man
}

// found fails the test unless what is loaded is one of the two, and answers it.
func (s saved) found(t *testing.T, d *disk.Disk, name string) *api.Man {
	t.Helper()
	m, is, e := had(d, name)
	switch {
	case e != api.OK:
		t.Fatalf("Load of %s: %v", name, e)
	case !is && s.last == nil:
		return nil
	case is && s.last != nil && equal(m, *s.last), is && s.next != nil && equal(m, *s.next):
		return &m
	}
	t.Fatalf("Load of %s: %v %v, not %v or %v", name, m, is, s.last, s.next)
	return nil
}

// history saves these, one behind the other, up to the first that is not OK, and answers what was saved, and whether all were.
func history(t *testing.T, d *disk.Disk, name string, l []api.Man) (saved, bool) {
	t.Helper()
	var s saved
	for i := range l {
		e := man.Save(d, name, l[i])
		if e == api.ErrDown {
			s.next = &l[i]
			return s, false
		}
		fine(t, e)
		s.last = &l[i]
	}
	return s, true
}

// scripts has rows of mans that are saved.
func scripts() [][]api.Man {
	return [][]api.Man{
		{of(1, 2)},
		{of(1, 2), of(3, 9, 1, 2)},
		{of(1, 9, 2, 3), of(4, 9)},
		{of(1, 2), of(1, 2), of(2, 3, 1)},
		{of(1, 9, 2, 3, 4), of(1, 9), of(1, most, most-1), of(5, 6)},
	}
}

// P11.3: a disk that stands still behind each number of calls of a history, and each crash behind it: what is loaded is what was saved last with OK, or what was being saved; it stays so behind another crash, and what is saved then is loaded.
func TestHistory(t *testing.T) {
	for _, l := range scripts() {
		for _, beside := range []string{"", "torn"} {
			for n := range 4*len(l) + 3 {
				for keep := -1; keep <= 3; keep++ {
					for torn := -1; torn <= 80; torn++ {
						d := fresh(t, 5000)
						if beside != "" {
							fine(t, d.Append("m.new", beside), d.Sync())
						}
						fine(t, d.Fuse(n))
						s, all := history(t, d, "m", l)
						fine(t, d.Crash(keep, torn))
						m := s.found(t, d, "m")
						if all && (m == nil || !equal(*m, l[len(l)-1])) {
							t.Fatalf("fuse %d, crash %d %d: %v", n, keep, torn, m)
						}
						fine(t, d.Crash(0, 0))
						saved{m, nil}.found(t, d, "m")
						fine(t, man.Save(d, "m", of(7, 8)))
						forGood(t, d, "m", of(7, 8))
						if names := d.Names(); !slices.Equal(names, []string{"m"}) {
							t.Fatalf("files %q", names)
						}
					}
				}
			}
		}
	}
}

// P11.3: what a crash leaves of a Save that was cut off is told by the place of the cut: the new man is there just where its Rename is kept.
func TestHistoryExact(t *testing.T) {
	old, m := of(1, 2), of(3, 9, 1, 2)
	for n := range 5 {
		for keep := -1; keep <= 3; keep++ {
			for torn := -1; torn <= len(bytesOf(m))+1; torn++ {
				d := fresh(t, 1000)
				fine(t, man.Save(d, "m", old), d.Fuse(n))
				want := api.ErrDown
				if n == 4 {
					want = api.OK
				}
				tells(t, want, man.Save(d, "m", m))
				fine(t, d.Crash(keep, torn))
				if n == 4 || n == 3 && keep >= 1 {
					forGood(t, d, "m", m)
				} else {
					loads(t, d, "m", old)
				}
				left := 0
				switch {
				case n == 2, n == 3 && keep < 1, n == 1 && keep >= 1:
					left = len(bytesOf(m))
				case n == 1:
					left = min(max(torn, 0), len(bytesOf(m)))
				}
				if left == 0 {
					missing(t, d, "m.new")
				} else {
					file(t, d, "m.new", bytesOf(m)[:left])
				}
			}
		}
	}
}

// P11.3: crash behind crash: each Save is cut off again, and goes on from what the one ahead of it left.
func TestCrashAgain(t *testing.T) {
	r := rand.New(rand.NewSource(14))
	for range 500 {
		d := fresh(t, 5000)
		var s saved
		for range 12 {
			next := few()[r.Intn(len(few()))]
			fine(t, d.Fuse(r.Intn(6)))
			switch e := man.Save(d, "m", next); e {
			case api.OK:
				s = saved{last: &next}
			case api.ErrDown:
				s.next = &next
			default:
				t.Fatal(e)
			}
			fine(t, d.Crash(r.Intn(4)-1, r.Intn(60)))
			s = saved{last: s.found(t, d, "m")}
		}
	}
}

// P11.3: two mans under two names on one disk, saved by turns, with a disk that stands still anywhere and has too little room at times: each is what was saved last, or being saved, and one's Save leaves the other as it was.
func TestTwoNames(t *testing.T) {
	r := rand.New(rand.NewSource(15))
	names := []string{"m", "n", "m.new.new"}
	for range 400 {
		d := fresh(t, 5000)
		have := make([]saved, len(names))
		var done []string
		for range 30 {
			i := r.Intn(len(names))
			next := few()[r.Intn(len(few()))]
			if r.Intn(3) == 0 {
				fine(t, d.Fuse(r.Intn(9)))
			}
			fine(t, d.Room([]int{5000, 200, 100}[r.Intn(3)]))
			e := man.Save(d, names[i], next)
			done = append(done, fmt.Sprintf("%s %v: %v", names[i], next, e))
			switch e {
			case api.OK:
				have[i] = saved{last: &next}
			case api.ErrFull:
				missing(t, d, names[i]+".new")
			case api.ErrDown:
				have[i].next = &next
			default:
				t.Fatal(done)
			}
			if e == api.ErrDown || r.Intn(5) == 0 {
				fine(t, d.Crash(r.Intn(4)-1, r.Intn(60)))
			}
			for j, name := range names {
				have[j] = saved{last: have[j].found(t, d, name)}
			}
		}
	}
}
