package wal_test

import (
	"fmt"
	"math/rand"
	"slices"
	"strings"
	"testing"

	"fascicle/api"
	"fascicle/disk"
	"fascicle/wal"
)

// deed is what is done next: records are appended, or all are taken away, or somebody else leaves something loose.
type deed struct {
	kind int
	l    []string
}

const (
	appends = iota
	resets
	others
)

// told is the deed as a text, for who reads what went wrong.
func (x deed) told() string {
	return fmt.Sprintf("%s of %q", [...]string{"Append", "Reset", "something else"}[x.kind], x.l)
}

// past is what a wal must have: all of sure, and behind it a beginning of what was under way, or, where it was a Reset, all of sure or none.
type past struct {
	sure  []string
	under deed
}

// done takes in what a deed answered.
func (p *past) done(x deed, e api.Errno) {
	switch {
	case e == api.ErrDown:
		p.under = x
	case e != api.OK:
	case x.kind == resets:
		p.sure = nil
	case x.kind == appends:
		p.sure = slices.Concat(p.sure, x.l)
	}
}

// allows tells whether these may be the records of a wal that is opened again.
func (p *past) allows(l []string) bool {
	if p.under.kind == resets {
		return len(l) == 0 || slices.Equal(l, p.sure)
	}
	all := slices.Concat(p.sure, p.under.l)
	return len(l) >= len(p.sure) && len(l) <= len(all) && slices.Equal(l, all[:len(l)])
}

// do does a deed to w, whose disk is d.
func (x deed) do(d *disk.Disk, w *wal.Wal) api.Errno {
	switch x.kind {
	case appends:
		return w.Append(x.l...)
	case resets:
		return w.Reset()
	}
	return d.Append("other", strings.Join(x.l, ""))
}

// scripts has deeds of all kinds, behind one another.
func scripts() [][]deed {
	one, some, none := deed{appends, []string{"a"}}, deed{appends, []string{"b", "", "cde"}}, deed{kind: appends}
	reset, loose := deed{kind: resets}, deed{others, []string{"xy"}}
	return [][]deed{
		{one, some},
		{some, reset, one},
		{reset, one, reset, reset, some, one},
		{loose, some, none, loose, loose, reset, loose, one, loose},
		{one, loose, reset, none, reset, loose, some},
	}
}

// until does a script on a new disk, whose fuse stands at n, up to the first ErrDown.
func until(t *testing.T, script []deed, n int) (*disk.Disk, *past) {
	t.Helper()
	d := fresh(t, room)
	w := opened(t, d, "w")
	fine(t, d.Fuse(n))
	p := &past{}
	for _, x := range script {
		e := x.do(d, w)
		if x.kind != others {
			p.done(x, e)
		}
		if e != api.OK {
			tells(t, api.ErrDown, e)
			break
		}
		has(t, w, p.sure...)
	}
	return d, p
}

// P8.4: a crash behind each number of calls, with each number of those that are loose and each number of bytes of the next one; and the wal that is opened again, with a crash at each call of that, too.
func TestCrashEverywhere(t *testing.T) {
	told := map[string]bool{}
	for _, script := range scripts() {
		for n := range 4 * len(script) {
			d, _ := until(t, script, n)
			for keep := -1; keep <= d.Loose()+1; keep++ {
				for torn := -1; torn <= 60; torn++ {
					d, p := until(t, script, n)
					fine(t, d.Crash(keep, torn))
					told[strings.Join(reopened(t, d, p), " ")] = true
				}
				for fuse := range 3 {
					for again := range 3 {
						d, p := until(t, script, n)
						fine(t, d.Crash(keep, 20), d.Fuse(fuse))
						wal.Open(d, "w")
						fine(t, d.Crash(again, 1))
						reopened(t, d, p)
					}
				}
			}
		}
	}
	for _, want := range []string{"", "a", "a b", "a b ", "a b  cde", "b", "b ", "b  cde", "b  cde a"} {
		if !told[want] {
			t.Errorf("no crash left %q", want)
		}
	}
}

// reopened is what a wal tells that is opened again, as p allows it; it is told again behind a crash, and goes on.
func reopened(t *testing.T, d *disk.Disk, p *past) []string {
	t.Helper()
	w, l, e := wal.Open(d, "w")
	if e != api.OK || !p.allows(l) {
		t.Fatalf("%v: records %q, behind %q and %v", e, l, p.sure, p.under.told())
	}
	has(t, w, l...)
	fine(t, d.Crash(0, 0))
	opened(t, d, "w", l...)
	fine(t, w.Append("more"), d.Crash(0, 0))
	opened(t, d, "w", append(slices.Clone(l), "more")...)
	return l
}

// plain is a wal told the plain way, on a disk of its own, to which just those calls are done that the chapter names.
type plain struct {
	d     *disk.Disk
	name  string
	l     []string
	fault api.Errno
}

func (p *plain) open() ([]string, api.Errno) {
	s, e := p.d.Read(p.name, 0, 1<<24)
	if e != api.OK && e != api.ErrNone {
		return nil, e
	}
	l, good := whole(s)
	if good < len(s) {
		if e := p.d.Truncate(p.name, good); e != api.OK {
			return nil, e
		}
	}
	if p.d.Loose() > 0 {
		if e := p.d.Sync(); e != api.OK {
			return nil, e
		}
	}
	p.l, p.fault = l, api.OK
	return l, api.OK
}

// whole has the texts of frames whose end may be torn, but that are good besides.
func whole(s string) (l []string, good int) {
	for len(s)-good >= 12 {
		n := int(s[good]) | int(s[good+1])<<8
		if len(s)-good < 12+n {
			break
		}
		l = append(l, s[good+12:good+12+n])
		good += 12 + n
	}
	return l, good
}

func (p *plain) do(x deed) api.Errno {
	if p.fault != api.OK {
		return p.fault
	}
	if x.kind == resets {
		_, e := p.d.Size(p.name)
		if e == api.OK {
			e = p.d.Remove(p.name)
			if e == api.OK {
				e = p.d.Sync()
			}
		} else if e == api.ErrNone {
			e = api.OK
		}
		if p.fault = e; e == api.OK {
			p.l = nil
		}
		return e
	}
	if len(x.l) == 0 {
		return api.OK
	}
	e := p.d.Append(p.name, framed(x.l...))
	if e == api.ErrFull {
		return e
	}
	if e == api.OK {
		e = p.d.Sync()
	}
	if p.fault = e; e == api.OK {
		p.l = slices.Concat(p.l, x.l)
	}
	return e
}

// pair is a wal, the same told the plain way, and what is known of its past.
type pair struct {
	w *wal.Wal
	p *plain
	k past
}

// reopen opens both again; where that is down both stay what they were.
func (x *pair) reopen(t *testing.T, d *disk.Disk) {
	t.Helper()
	w, l, e := wal.Open(d, x.p.name)
	want, wantWhy := x.p.open()
	if !slices.Equal(l, want) || e != wantWhy {
		t.Fatalf("Open: %q %v, not %q %v", l, e, want, wantWhy)
	}
	if e != api.OK {
		return
	}
	if !x.k.allows(l) {
		t.Fatalf("Open: %q, behind %q and %v", l, x.k.sure, x.k.under.told())
	}
	x.w, x.k = w, past{sure: l}
}

// P8.1 to P8.4: two wals on one disk in long mixtures of calls, crashes and other things that befall them, against the plain way.
func TestMixture(t *testing.T) {
	r := rand.New(rand.NewSource(8))
	count := map[api.Errno]int{}
	for range 300 {
		d, twin := fresh(t, 400), fresh(t, 400)
		both := []*pair{{p: &plain{d: twin, name: "v"}}, {p: &plain{d: twin, name: "w"}}}
		for _, x := range both {
			x.reopen(t, d)
		}
		for range 200 {
			befall(t, r, d, twin)
			x := both[r.Intn(2)]
			if r.Intn(8) == 0 {
				x.reopen(t, d)
			}
			y := drawn(r)
			was := x.w.Fault()
			e := y.do(d, x.w)
			if want := x.p.do(y); e != want {
				t.Fatalf("%v: %v, not %v", y.told(), e, want)
			}
			if was == api.OK {
				x.k.done(y, e)
			}
			count[e]++
			for _, x := range both {
				hasDown(t, x.w, x.p.fault, x.p.l...)
			}
			alike(t, d, twin)
		}
	}
	for _, e := range []api.Errno{api.OK, api.ErrFull, api.ErrDown} {
		if count[e] < 1000 {
			t.Errorf("%v came %d times alone", e, count[e])
		}
	}
}

// drawn is any deed to a wal.
func drawn(r *rand.Rand) deed {
	if r.Intn(6) == 0 {
		return deed{kind: resets}
	}
	l := make([]string, r.Intn(4))
	for i := range l {
		l[i] = letters(r.Intn(5) * r.Intn(5))
	}
	return deed{appends, l}
}

// befall does the same to both disks, mostly nothing.
func befall(t *testing.T, r *rand.Rand, disks ...*disk.Disk) {
	t.Helper()
	n, a, b := r.Intn(40), r.Intn(5)-1, r.Intn(50)
	var told []api.Errno
	for _, d := range disks {
		e := api.OK
		switch n {
		case 0, 1, 2:
			e = d.Crash(a, b)
		case 3, 4, 5:
			e = d.Fuse(a)
		case 6:
			e = d.Room(350 + b)
		case 7, 8:
			e = d.Append("other", letters(a+1))
		case 9:
			e = d.Remove("other")
		case 10:
			e = d.Sync()
		}
		told = append(told, e)
	}
	if told[0] != told[1] {
		t.Fatalf("disks tell %v", told)
	}
}

// alike fails the test unless both disks have the same, as far as they can be asked.
func alike(t *testing.T, a, b *disk.Disk) {
	t.Helper()
	if !slices.Equal(a.Names(), b.Names()) || a.Used() != b.Used() || a.Loose() != b.Loose() {
		t.Fatalf("%q %d %d, not %q %d %d", a.Names(), a.Used(), a.Loose(), b.Names(), b.Used(), b.Loose())
	}
	for _, name := range a.Names() {
		s, e := a.Read(name, 0, 1<<24)
		if want, wantWhy := b.Read(name, 0, 1<<24); s != want || e != wantWhy {
			t.Fatalf("%s: %q %v, not %q %v", name, s, e, want, wantWhy)
		}
	}
}
