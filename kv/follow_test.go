package kv_test

import (
	"fmt"
	"math"
	"math/rand"
	"testing"

	"fascicle/api"
	"fascicle/disk"
	"fascicle/kv"
)

// deed is what is done next: pairs are put, or (of none) a run is made.
type deed struct {
	kind int
	l    []api.Pair
}

const (
	applies = iota
	flushes
	compacts
)

func put(l ...api.Pair) deed { return deed{kind: applies, l: l} }

// do does the deed to a store.
func (x deed) do(k *kv.Kv) api.Errno {
	switch x.kind {
	case flushes:
		return k.Flush()
	case compacts:
		return k.Compact()
	}
	return k.Apply(x.l)
}

// tell does the same the plain way.
func (x deed) tell(p *plain) {
	switch x.kind {
	case flushes:
		p.flush()
	case compacts:
		p.compact()
	default:
		p.apply(x.l...)
	}
}

// scripts has deeds of all kinds, behind one another.
func scripts() [][]deed {
	flush, compact := deed{kind: flushes}, deed{kind: compacts}
	a, b := put(pair("a", "1"), pair("b", "2")), put(gone("a"), pair("c", "3"), pair("b", "4"))
	c, d := put(pair("a", "5"), gone("c"), pair("a", "6")), put(gone("b"))
	return [][]deed{
		{a, b, c},
		{a, flush, b},
		{a, flush, b, flush, compact, c},
		{flush, compact, a, b, flush, c, flush, d, compact, a, flush, compact},
		{a, flush, c, flush, b, flush, d, compact, flush, compact, c},
		{put(), d, flush, flush, d, flush, compact, a, put()},
	}
}

// past is what a store must have: what all Applies put that were answered OK; or that, and the one that was under way.
type past struct {
	sure, next *plain
}

// until does a script on a new disk, the fuse of which stands at n, up to the first ErrDown; from the Open on.
func until(t *testing.T, script []deed, n int) (*disk.Disk, past) {
	t.Helper()
	d, p := fresh(t, room), plainOf("s")
	fine(t, d.Fuse(n))
	k, e := kv.Open(d, "s")
	if e != api.OK {
		tells(t, api.ErrDown, e)
		return d, past{p, p}
	}
	for _, x := range script {
		e := x.do(k)
		if e != api.OK {
			tells(t, api.ErrDown, e, k.Fault())
			next := p.clone()
			x.tell(next)
			return d, past{p, next}
		}
		x.tell(p)
	}
	return d, past{p, p}
}

// found fails the test unless the store that is opened again is all the one or all the other, as its files say, too; it answers which.
func (s past) found(t *testing.T, d *disk.Disk) *plain {
	t.Helper()
	k := opened(t, d, "s")
	p := s.left(t, d, "s")
	// What was appended of a first batch is cut off: no byte of the file stays then.
	name := walFile("s", p.man.Wal)
	if n, e := d.Size(name); n == 0 && e == api.OK {
		fine(t, d.Remove(name), d.Sync())
	}
	p.is(t, d, k)
	return p
}

// left is which of both the files of an open store are.
func (s past) left(t *testing.T, d *disk.Disk, name string) *plain {
	t.Helper()
	text, _ := d.Read(name+".man", 0, math.MaxInt)
	for _, p := range []*plain{s.sure, s.next} {
		batches, _ := d.Read(walFile(name, p.man.Wal), 0, math.MaxInt)
		if text == manOf(p.man) && batches == framed(p.records...) {
			return p
		}
	}
	t.Fatalf("the disk has %s, not %s or %s", seen(t, d), listed(s.sure.files()), listed(s.next.files()))
	return nil
}

// tornAt has how many bytes of a call that was cut off may be there: about the edges of frames, and some within.
func tornAt() []int { return []int{-1, 0, 1, 7, 8, 11, 12, 13, 20, 30, 36, 44, 45, 52, 60, 1000} }

// P12.6: a script with a fuse at each call, the Open's, too; a crash with each number of the calls that are loose, and torn anywhere: what is opened is what was put; it stays so behind another crash, and is gone on with.
func TestHistory(t *testing.T) {
	for _, script := range scripts() {
		for n, more := 0, true; more; n++ {
			d, _ := until(t, script, n)
			more = d.Append("s.end", "") == api.ErrDown
			loose := d.Loose()
			for keep := 0; keep <= loose; keep++ {
				for _, torn := range tornAt() {
					d, s := until(t, script, n)
					fine(t, d.Crash(keep, torn))
					p := s.found(t, d)
					fine(t, d.Crash(0, 0))
					past{p, p}.found(t, d)
					k := opened(t, d, "s")
					for _, x := range []deed{put(pair("more", "7"), gone("a")), {kind: flushes}, {kind: compacts}, put(gone("more"))} {
						fine(t, x.do(k))
						x.tell(p)
					}
					p.is(t, d, k)
				}
			}
		}
	}
}

// P12.6: the same, where the Open behind the crash is cut off, too, at each of its calls, by a crash of any kind, and again.
func TestHistoryOpen(t *testing.T) {
	for _, script := range scripts() {
		for n, more := 0, true; more; n++ {
			d, _ := until(t, script, n)
			more = d.Append("s.end", "") == api.ErrDown
			loose := d.Loose()
			for keep := 0; keep <= loose; keep++ {
				for fuse := range 6 {
					for again := range 3 {
						d, s := until(t, script, n)
						fine(t, d.Crash(keep, 20), d.Fuse(fuse))
						kv.Open(d, "s")
						fine(t, d.Crash(again, 13), d.Fuse(1))
						kv.Open(d, "s")
						fine(t, d.Crash(1-again, 0))
						s.found(t, d)
					}
				}
			}
		}
	}
}

// P12.6: the same, but that the disk just goes on, without a crash: what is opened then is for good.
func TestHistoryOn(t *testing.T) {
	for _, script := range scripts() {
		for n, more := 0, true; more; n++ {
			d, s := until(t, script, n)
			more = d.Append("s.end", "") == api.ErrDown
			fine(t, d.Fuse(-1))
			if d.Remove("s.end") != api.OK && !more {
				t.Fatal("the test's own file")
			}
			p := s.found(t, d)
			fine(t, d.Crash(0, 0))
			past{p, p}.found(t, d)
		}
	}
}

// P12.6: an Open that is cut off at each of its calls, by each crash, of a store that a crash left amid a Flush or a Compact.
func TestOpenCutOff(t *testing.T) {
	for _, x := range turns() {
		for n := range 6 + x.behind {
			for fuse := range 5 {
				for keep := range 5 {
					d, k, p := three(t)
					fine(t, d.Fuse(n))
					tells(t, api.ErrDown, x.do(k))
					next := p.clone()
					x.plain(next)
					fine(t, d.Crash(1, 30), d.Fuse(fuse))
					kv.Open(d, "s")
					fine(t, d.Crash(keep, 0))
					past{p, next}.found(t, d)
				}
			}
		}
	}
}

// P12.6: a crash of a store on which nothing is under way leaves all of it, and it goes on, without an Open.
func TestCrashIdle(t *testing.T) {
	for _, script := range scripts() {
		d, p := fresh(t, room), plainOf("s")
		k := opened(t, d, "s")
		for _, x := range script {
			fine(t, d.Append("other", "x"), d.Crash(0, 0), x.do(k))
			x.tell(p)
			fine(t, d.Crash(0, 5))
			p.is(t, d, k)
		}
	}
}

// drawn is any deed to a store.
func drawn(r *rand.Rand) deed {
	switch r.Intn(8) {
	case 0, 1:
		return deed{kind: flushes}
	case 2:
		return deed{kind: compacts}
	}
	l := make([]api.Pair, r.Intn(5))
	for i := range l {
		l[i] = pair(fmt.Sprint(r.Intn(12)), letters(r.Intn(20)))
		if r.Intn(3) == 0 {
			l[i] = gone(l[i].Key)
		}
	}
	return put(l...)
}

// twin is a store of a mixture: what it must have, and whether it is there.
type twin struct {
	k *kv.Kv
	s past
}

// reopen opens the store of that name again, as far as the disk lets it.
func (x *twin) reopen(t *testing.T, d *disk.Disk, name string) api.Errno {
	t.Helper()
	k, e := kv.Open(d, name)
	if e == api.ErrFull || e == api.ErrDown {
		return e
	}
	fine(t, e)
	p := x.s.left(t, d, name)
	x.k, x.s = k, past{p, p.clone()}
	p.reads(t, k)
	return api.OK
}

// P12.1 to P12.6: two stores on one disk in long mixtures of calls, with fuses, crashes, and too little room at times, each against the plain way.
func TestMixture(t *testing.T) {
	r := rand.New(rand.NewSource(14))
	count := map[api.Errno]int{}
	names := []string{"s", "t.man"}
	for range 150 {
		d := fresh(t, 3000)
		var both [2]*twin
		for i, name := range names {
			p := plainOf(name)
			both[i] = &twin{s: past{p, p.clone()}}
			fine(t, both[i].reopen(t, d, name))
		}
		for range 150 {
			befall(t, r, d)
			i := r.Intn(2)
			x := both[i]
			if was := x.k.Fault(); was != api.OK {
				stuck(t, x.k, was)
				if e := x.reopen(t, d, names[i]); e != api.OK {
					count[e]++
					continue
				}
			} else if r.Intn(20) == 0 {
				x.reopen(t, d, names[i])
			}
			if x.k.Fault() != api.OK {
				continue
			}
			y := drawn(r)
			e := y.do(x.k)
			count[e]++
			next := x.s.sure.clone()
			y.tell(next)
			switch {
			case e == api.OK:
				x.s = past{next, next.clone()}
			case e == api.ErrFull, y.kind == compacts && x.k.Fault() == api.OK:
			case e == api.ErrDown:
				x.s.next = next
				fine(t, d.Crash(r.Intn(5)-1, r.Intn(60)))
			default:
				t.Fatal(e)
			}
			if x.k.Fault() == api.OK && d.Fuse(-1) == api.OK {
				x.s.sure.reads(t, x.k)
			}
		}
	}
	for _, e := range []api.Errno{api.OK, api.ErrFull, api.ErrDown} {
		if count[e] < 1000 {
			t.Errorf("%v came %d times alone", e, count[e])
		}
	}
}

// befall does to the disk what may befall it, mostly nothing.
func befall(t *testing.T, r *rand.Rand, d *disk.Disk) {
	t.Helper()
	switch r.Intn(12) {
	case 0:
		fine(t, d.Crash(r.Intn(5)-1, r.Intn(50)))
	case 1, 2, 3:
		fine(t, d.Fuse(r.Intn(10)))
	case 4:
		fine(t, d.Room(r.Intn(1500)))
	case 5:
		fine(t, d.Room(3000))
	}
}
