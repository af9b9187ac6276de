package kv_test

import (
	"fmt"
	"maps"
	"math"
	"slices"
	"strings"
	"testing"

	"fascicle/api"
	"fascicle/disk"
	"fascicle/kv"
)

// namesAre fails the test unless the disk has just the files of these names.
func namesAre(t *testing.T, d *disk.Disk, want ...string) {
	t.Helper()
	slices.Sort(want)
	if l := d.Names(); !slices.Equal(l, want) {
		t.Fatalf("files %q, not %q", l, want)
	}
}

// P12.4, P12.5: the files' names, and how many runs there are, behind each call, written out.
func TestFiles(t *testing.T) {
	d := fresh(t, room)
	k := opened(t, d, "s")
	namesAre(t, d, "s.man")
	step := func(do func() api.Errno, runs int, names ...string) {
		t.Helper()
		fine(t, do(), k.Fault())
		namesAre(t, d, append(names, "s.man")...)
		if k.Runs() != runs {
			t.Fatalf("%d runs, not %d", k.Runs(), runs)
		}
	}
	put := func() api.Errno { return k.Apply([]api.Pair{pair("a", "1"), gone("b")}) }
	step(k.Flush, 0)
	step(k.Compact, 0)
	step(put, 0, "s.wal.000000000001")
	step(k.Compact, 0, "s.wal.000000000001")
	step(k.Flush, 1, "s.run.000000000002")
	step(k.Flush, 1, "s.run.000000000002")
	step(k.Compact, 1, "s.run.000000000002")
	step(put, 1, "s.run.000000000002", "s.wal.000000000003")
	step(k.Compact, 1, "s.run.000000000002", "s.wal.000000000003")
	step(k.Flush, 2, "s.run.000000000002", "s.run.000000000004")
	step(put, 2, "s.run.000000000002", "s.run.000000000004", "s.wal.000000000005")
	step(k.Compact, 1, "s.run.000000000006", "s.wal.000000000005")
	step(k.Flush, 2, "s.run.000000000006", "s.run.000000000007")
	step(k.Compact, 1, "s.run.000000000009")
	step(put, 1, "s.run.000000000009", "s.wal.000000000008")
	step(k.Flush, 2, "s.run.000000000009", "s.run.00000000000a")
	step(put, 2, "s.run.000000000009", "s.run.00000000000a", "s.wal.00000000000b")
	step(k.Flush, 3, "s.run.000000000009", "s.run.00000000000a", "s.run.00000000000c")
	s, _ := d.Read("s.man", 0, 999)
	if s != manOf(api.Man{Wal: 13, Runs: []uint64{9, 10, 12}, Next: 14}) {
		t.Fatalf("%q", s)
	}
	step(k.Compact, 1, "s.run.00000000000e")
	if s, _ := d.Read("s.run.00000000000e", 0, 999); s != runOf(pair("a", "1")) {
		t.Fatalf("%q", s)
	}
}

// P12.4: without pairs in the mem a Flush does nothing, whatever the runs, also on a disk that stands still or has no room.
func TestFlushNone(t *testing.T) {
	for n := range 3 {
		d, k, p := madeOf(t, append(slices.Clone(small()[:n]), nil)...)
		none := func() { fine(t, k.Flush()) }
		same(t, d, none)
		still(t, d, none)
		fine(t, d.Room(0))
		same(t, d, none)
		p.is(t, d, k)
	}
}

// P12.4: a Flush writes the mem, Gone ones, too, as a run, by eight calls of the disk, for good; it goes on with a new wal.
func TestFlush(t *testing.T) {
	for n := 1; n <= 3; n++ {
		for _, l := range [][]api.Pair{{gone("a")}, {pair("b", "9"), gone("zz"), pair("a", "")}, rightPairs()} {
			d, k, p := madeOf(t, append(slices.Clone(small()[:n-1]), l)...)
			burns(t, d, 8, func() { fine(t, k.Flush()) })
			p.flush()
			p.is(t, d, k)
			fine(t, d.Crash(0, 0))
			p.is(t, d, k)
			fine(t, k.Apply(l[:1]))
			p.apply(l[:1]...)
			p.is(t, d, k)
			fine(t, k.Flush())
			p.flush()
			p.is(t, d, k)
		}
	}
}

// P12.4: with fewer than two runs a Compact does nothing, also on a disk that stands still or has no room.
func TestCompactNone(t *testing.T) {
	for _, lists := range [][][]api.Pair{nil, {nil}, {small()[0]}, {small()[0], nil}, {small()[0], small()[1]}, {{gone("a")}, nil}} {
		d, k, p := madeOf(t, lists...)
		none := func() { fine(t, k.Compact()) }
		same(t, d, none)
		still(t, d, none)
		fine(t, d.Room(0))
		same(t, d, none)
		p.is(t, d, k)
	}
}

// P12.4: a Compact writes of all keys in runs the youngest one's pair, but those that are Gone, as a run, and removes the others, by seven calls and one for each; the mem and the wal stay.
func TestCompact(t *testing.T) {
	more := [][]api.Pair{{gone("ab"), gone("none")}, {pair("ab", "5")}, {gone("ab"), gone("\xff\xff"), pair("z", "6")}}
	all := append(small(), more...)
	for n := 2; n <= len(all); n++ {
		for _, last := range [][]api.Pair{nil, {pair("a", "mem"), gone("c"), gone("new")}} {
			d, k, p := madeOf(t, append(slices.Clone(all[:n]), last)...)
			burns(t, d, 7+n, func() { fine(t, k.Compact()) })
			p.compact()
			p.is(t, d, k)
			fine(t, d.Crash(0, 0))
			p.is(t, d, k)
			same(t, d, func() { fine(t, k.Compact()) })
			fine(t, k.Apply(rightPairs()), k.Flush(), k.Compact())
			p.apply(rightPairs()...)
			p.flush()
			p.compact()
			p.is(t, d, k)
		}
	}
	d, k, p := madeOf(t, append(mixed()[:3:3], nil)...)
	fine(t, k.Compact())
	p.compact()
	p.is(t, d, k)
}

// P12.4: of runs all of whose pairs are Gone a Compact makes one without pairs, that counts, and is gone on with.
func TestCompactGone(t *testing.T) {
	d, k, p := madeOf(t, []api.Pair{pair("a", "1"), gone("b")}, []api.Pair{gone("a"), gone("c")}, nil)
	fine(t, k.Compact())
	p.compact()
	if s, _ := d.Read("s.run.000000000006", 0, 99); s != runOf() || k.Runs() != 1 {
		t.Fatalf("%q, %d runs", s, k.Runs())
	}
	p.is(t, d, k)
	for _, x := range []api.Pair{gone("a"), gone("b"), pair("c", "2")} {
		fine(t, k.Apply([]api.Pair{x}), k.Flush(), k.Compact())
		p.apply(x)
		p.flush()
		p.compact()
		p.is(t, d, k)
	}
}

// P12.4: as many runs as may be: one more is ErrFull, nothing has changed, and it is not down; with an empty mem a Flush does nothing, as ever; a Compact makes one of them.
func TestMaxRuns(t *testing.T) {
	d := fresh(t, api.MaxRoom)
	k, p := opened(t, d, "s"), plainOf("s")
	for i := range api.MaxRuns {
		l := []api.Pair{pair(fmt.Sprint(i%100), fmt.Sprint(i)), pair(fmt.Sprint("own ", i), "")}
		fine(t, k.Apply(l), k.Flush())
		p.apply(l...)
		p.flush()
	}
	p.is(t, d, k)
	same(t, d, func() { fine(t, k.Flush()) })
	fine(t, k.Apply([]api.Pair{pair("a", "1")}))
	p.apply(pair("a", "1"))
	same(t, d, func() { tells(t, api.ErrFull, k.Flush(), k.Flush()) })
	still(t, d, func() { tells(t, api.ErrFull, k.Flush()) })
	p.is(t, d, k)
	fine(t, k.Apply([]api.Pair{gone("5")}))
	p.apply(gone("5"))
	fine(t, k.Compact())
	p.compact()
	p.is(t, d, k)
	fine(t, k.Flush())
	p.flush()
	p.is(t, d, k)
}

// turn is a call that makes a run, the same told the plain way, and how many calls of a disk it makes behind the man's being saved, where there are three runs.
type turn struct {
	do     func(k *kv.Kv) api.Errno
	plain  func(p *plain)
	behind int
}

// turns has both of them. Each makes six calls up to the man's being saved.
func turns() []turn {
	return []turn{{(*kv.Kv).Flush, (*plain).flush, 2}, {(*kv.Kv).Compact, (*plain).compact, 4}}
}

// three is a store of three runs and a mem.
func three(t *testing.T) (*disk.Disk, *kv.Kv, *plain) {
	t.Helper()
	return madeOf(t, append(small(), []api.Pair{pair("a", "mem"), gone("c"), pair("d", letters(30))})...)
}

// P12.4: a file of the new run's name that is there is removed, by one call more.
func TestTurnLeft(t *testing.T) {
	for _, x := range turns() {
		for _, text := range []string{"", "any text", runOf(pair("x", "y"))} {
			d, k, p := three(t)
			fine(t, d.Append(runFile("s", p.man.Next), text), d.Sync())
			burns(t, d, 1+6+x.behind, func() { fine(t, x.do(k)) })
			x.plain(p)
			p.is(t, d, k)
		}
	}
}

// P12.4, P12.6: a disk with too little room for the run, or for the man: ErrFull, the store is as it was, and is not down; what was written of it is removed by the next one, or the next Open.
func TestTurnFull(t *testing.T) {
	for _, x := range turns() {
		_, _, p := three(t)
		after := p.clone()
		x.plain(after)
		left := runFile("s", p.man.Next)
		run, man := len(after.files()[left]), len(after.files()["s.man"])
		for n := range run + man {
			d, k, p := three(t)
			used := d.Used()
			fine(t, d.Room(used+n))
			tells(t, api.ErrFull, x.do(k))
			want := p.files()
			if n >= run {
				want[left] = after.files()[left]
			}
			hasFiles(t, d, want)
			p.reads(t, k)
			tells(t, api.ErrFull, x.do(k))
			hasFiles(t, d, want)
			p.reads(t, k)
			fine(t, k.Fault())
			p.is(t, d, opened(t, d, "s"))
			tells(t, api.ErrFull, x.do(k))
			fine(t, d.Room(used+run+man), k.Apply(nil), x.do(k))
			x.plain(p)
			p.is(t, d, k)
		}
	}
}

// P12.4, P12.6: behind a want of room it goes on: batches are put, and a turn that has room is done.
func TestTurnFullGoesOn(t *testing.T) {
	for _, x := range turns() {
		_, _, p := three(t)
		x.plain(p)
		run := len(p.files()[runFile("s", 8)])
		for _, n := range []int{0, run - 1, run, run + 40} {
			d, k, p := three(t)
			fine(t, d.Room(d.Used()+n))
			tells(t, api.ErrFull, x.do(k))
			fine(t, d.Room(d.Used()+1000), k.Apply([]api.Pair{pair("more", "7")}))
			p.apply(pair("more", "7"))
			p.reads(t, k)
			for _, y := range turns() {
				fine(t, y.do(k))
				y.plain(p)
				p.is(t, d, k)
			}
		}
	}
}

// P12.4, P12.5, P12.6: where the disk stands still at each of the calls: ErrDown, and it is down, but tells what it has, once the disk goes on, and behind each crash; the runs are the old ones up to the man's being saved, the new ones behind it. What is opened behind each crash is all, old or new.
func TestTurnFuse(t *testing.T) {
	for _, x := range turns() {
		for n := range 6 + x.behind {
			for keep := -1; keep <= 4; keep++ {
				for _, torn := range []int{0, 1, 12, 40, 1000} {
					d, k, p := three(t)
					old := p.clone()
					fine(t, d.Fuse(n))
					tells(t, api.ErrDown, x.do(k))
					x.plain(p)
					stuck(t, k, api.ErrDown)
					runs := len(old.runs)
					if n >= 6 {
						runs = len(p.runs)
					}
					reads := func() {
						t.Helper()
						scans(t, k, "", "", 99, old.pairs()...)
						gets(t, k, old.pairs()...)
						misses(t, k, "b\x00", "c", "none")
						if k.Runs() != runs {
							t.Fatalf("call %d: %d runs, not %d", n, k.Runs(), runs)
						}
					}
					// It stands still yet: what is in the mem is there, as it was.
					gets(t, k, pair("a", "mem"), pair("d", letters(30)))
					misses(t, k, "c")
					if keep < 0 {
						fine(t, d.Fuse(-1))
						reads()
						stuck(t, k, api.ErrDown)
						reads()
						scans(t, opened(t, d, "s"), "", "", 99, old.pairs()...)
						continue
					}
					fine(t, d.Crash(keep, torn))
					reads()
					stuck(t, k, api.ErrDown)
					again := opened(t, d, "s")
					if n >= 6 || n == 5 && keep >= 1 {
						p.is(t, d, again)
					} else {
						old.is(t, d, again)
					}
				}
			}
		}
		d, k, p := three(t)
		burns(t, d, 6+x.behind, func() { fine(t, x.do(k)) })
		x.plain(p)
		p.is(t, d, k)
	}
}

// P12.4, P12.6: where the disk stands still at the call that removes what a turn left, and amid the next turn: nothing is lost.
func TestTurnLeftFuse(t *testing.T) {
	for _, x := range turns() {
		for n := range 7 + x.behind {
			d, k, p := three(t)
			fine(t, d.Append(runFile("s", p.man.Next), "left"), d.Sync(), d.Fuse(n))
			tells(t, api.ErrDown, x.do(k))
			stuck(t, k, api.ErrDown)
			want := p.clone()
			if n >= 7 {
				x.plain(want)
			}
			fine(t, d.Crash(0, 9))
			want.is(t, d, opened(t, d, "s"))
		}
	}
}

// P12.4: on a disk that stands still already: a Flush puts the store down; a Compact has an error of reading a run, and changes nothing: it is not down.
func TestTurnStill(t *testing.T) {
	d, k, p := three(t)
	still(t, d, func() {
		tells(t, api.ErrDown, k.Compact(), k.Compact())
		fine(t, k.Fault())
	})
	fine(t, k.Compact())
	p.compact()
	p.is(t, d, k)
	still(t, d, func() { tells(t, api.ErrDown, k.Flush()) })
	same(t, d, func() { stuck(t, k, api.ErrDown) })
	p.reads(t, k)
	p.is(t, d, opened(t, d, "s"))
	// Runs without pairs have nothing to be read: the first call that changes is told.
	p = plainOf("s")
	p.man = api.Man{Wal: 1, Runs: []uint64{2, 3}, Next: 4}
	p.runs = []map[string]api.Pair{{}, {}}
	d = laid(t, p.files())
	k = opened(t, d, "s")
	p.is(t, d, k)
	still(t, d, func() { tells(t, api.ErrDown, k.Compact()) })
	same(t, d, func() { stuck(t, k, api.ErrDown) })
	k = opened(t, d, "s")
	fine(t, k.Compact())
	p.compact()
	p.is(t, d, k)
}

// P12.4: an error of reading a run, at each place: a Compact changes nothing, and does not put it down; a Flush reads none.
func TestCompactSpoilt(t *testing.T) {
	for i := range 3 {
		d, k, p := three(t)
		name := runFile("s", p.man.Runs[i])
		n, _ := d.Size(name)
		for _, off := range []int{20, 32, n - 1} {
			fine(t, d.Flip(name, off, 3))
			same(t, d, func() { tells(t, api.ErrBad, k.Compact(), k.Compact()) })
			still(t, d, func() { tells(t, api.ErrDown, k.Compact()) })
			fine(t, k.Fault(), d.Flip(name, off, 3))
		}
		p.is(t, d, k)
		fine(t, d.Flip(name, 30, 1), k.Apply([]api.Pair{pair("e", "1")}), k.Flush())
		p.apply(pair("e", "1"))
		p.flush()
		fine(t, d.Flip(name, 30, 1))
		p.is(t, d, k)
		fine(t, k.Compact())
		p.compact()
		p.is(t, d, k)
	}
}

// P12.4, P12.5: numbers up to the greatest Next that a man may have; behind these the man's error, by which it is down: nothing is lost, and batches are put again once it is opened anew.
func TestLastNumbers(t *testing.T) {
	for _, x := range turns() {
		for next := uint64(mostMan - 3); next <= mostMan; next++ {
			p := plainOf("s")
			p.man = api.Man{Wal: 7, Runs: []uint64{9, mostMan - 5}, Next: next}
			p.runs = []map[string]api.Pair{{"a": pair("a", "1"), "b": pair("b", "1")}, {"a": pair("a", "2")}}
			p.apply(gone("b"))
			d := laid(t, p.files())
			k := opened(t, d, "s")
			p.is(t, d, k)
			after := p.clone()
			x.plain(after)
			if after.man.Next <= mostMan {
				fine(t, x.do(k))
				after.is(t, d, k)
				continue
			}
			tells(t, api.ErrArg, x.do(k))
			p.reads(t, k)
			same(t, d, func() { stuck(t, k, api.ErrArg) })
			still(t, d, func() { stuck(t, k, api.ErrArg) })
			k = opened(t, d, "s")
			p.is(t, d, k)
			fine(t, k.Apply([]api.Pair{pair("c", "3")}))
			p.apply(pair("c", "3"))
			p.is(t, d, k)
		}
	}
}

// P12.4: runs that are long, of long keys and values; what is answered is all of it.
func TestTurnLong(t *testing.T) {
	d := fresh(t, api.MaxRoom)
	k, p := opened(t, d, "s"), plainOf("s")
	for i := range 3 {
		l := []api.Pair{pair(strings.Repeat("k", api.MaxKey), letters(api.MaxVal-i)), pair(fmt.Sprint(i), letters(api.MaxVal)), gone(strings.Repeat("k", api.MaxKey-1))}
		fine(t, k.Apply(l), k.Apply(many(1000*i)), k.Flush())
		p.apply(l...)
		p.apply(many(1000 * i)...)
		p.flush()
		p.is(t, d, k)
	}
	fine(t, k.Compact())
	p.compact()
	p.is(t, d, k)
	scans(t, k, "key 5", "", 100, within(p.pairs(), "key 5", "", 100)...)
}

// P12.4, P12.6: two stores on one disk: what one does leaves the other as it was, also where there is no room for both.
func TestTwoStores(t *testing.T) {
	d := fresh(t, 700)
	names := []string{"s", "s.man", "t"}
	var ks []*kv.Kv
	var ps []*plain
	for _, name := range names {
		ks, ps = append(ks, opened(t, d, name)), append(ps, plainOf(name))
	}
	full := 0
	for i := range 400 {
		k, p := ks[i%3], ps[i%3]
		var e api.Errno
		switch l := []api.Pair{pair(fmt.Sprint(i%5), fmt.Sprint(i)), gone(fmt.Sprint(i % 7))}; {
		case i%11 == 4:
			if e = k.Flush(); e == api.OK {
				p.flush()
			}
		case i%13 == 5:
			if e = k.Compact(); e == api.OK {
				p.compact()
			}
		default:
			if e = k.Apply(l); e == api.OK {
				p.apply(l...)
			}
		}
		want := map[string]string{}
		for j, p := range ps {
			fine(t, ks[j].Fault())
			p.reads(t, ks[j])
			maps.Copy(want, p.files())
		}
		if e == api.ErrFull {
			full++
			fine(t, d.Room(d.Used()+200))
			ks[i%3] = opened(t, d, names[i%3])
		} else {
			fine(t, e)
		}
		hasFiles(t, d, want)
	}
	if full < 5 {
		t.Fatalf("%d times full", full)
	}
	for j, p := range ps {
		scans(t, opened(t, d, names[j]), "", "", math.MaxInt, p.pairs()...)
	}
}
