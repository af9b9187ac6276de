package run_test

import (
	"fmt"
	"math"
	"math/rand"
	"slices"
	"strings"
	"testing"

	"fascicle/api"
	"fascicle/disk"
	"fascicle/run"
)

// small has rows of pairs that have few bytes.
func small() [][]api.Pair {
	return [][]api.Pair{
		nil,
		{pair("a", "1")},
		{gone("a")},
		{pair("a", ""), gone("b"), pair("c", "345")},
		{gone("\x00"), pair("a", "a"), pair("aa", "\x00\xff"), gone("aaa"), pair("\xff", "")},
	}
}

// P10.4: each bit of a run turned ahead of the Open: it is not opened, till the bit is turned again.
func TestFlipAhead(t *testing.T) {
	for _, l := range small() {
		all := runOf(l...)
		d := fresh(t, 5000)
		fine(t, run.Write(d, "r", l))
		for off := range all {
			for bit := range 8 {
				fine(t, d.Flip("r", off, bit))
				refused(t, d, "r", api.ErrBad)
				fine(t, d.Flip("r", off, bit))
			}
			holds(t, opened(t, d, "r"), l...)
		}
	}
}

// ownerOf tells in which pair's frame the byte stands; -1: in none. (Each count of pairs has as many bytes: a run of the first ones ends where the next one begins.)
func ownerOf(l []api.Pair, off int) int {
	for i := range l {
		if off >= len(runOf(l[:i]...)) && off < len(runOf(l[:i+1]...)) {
			return i
		}
	}
	return -1
}

// P10.4: each bit of a run turned behind the Open: the pair whose frame it is in is told as ErrBad, and all others as they were; so are all once it is turned again.
func TestFlipBehind(t *testing.T) {
	for _, l := range small() {
		all := runOf(l...)
		d := fresh(t, 5000)
		r := written(t, d, "r", l...)
		for off := range all {
			bad := ownerOf(l, off)
			for bit := range 8 {
				fine(t, d.Flip("r", off, bit))
				spoilt(t, r, l, bad)
				fine(t, d.Flip("r", off, bit))
				holds(t, r, l...)
			}
		}
	}
}

// spoilt fails the test unless r tells the pair bad as ErrBad, and all others of l as they are.
func spoilt(t *testing.T, r *run.Run, l []api.Pair, bad int) {
	t.Helper()
	for i, p := range l {
		if i == bad {
			fails(t, r, api.ErrBad, p.Key)
			scanFails(t, r, p.Key, p.Key+"\x00", 1, api.ErrBad)
		} else {
			gets(t, r, p)
			scans(t, r, p.Key, p.Key+"\x00", 1, p)
		}
	}
	misses(t, r, "", "none", "\xff\xff")
	if bad < 0 {
		holds(t, r, l...)
		return
	}
	scanFails(t, r, "", "", math.MaxInt, api.ErrBad)
	scans(t, r, "", l[bad].Key, math.MaxInt, l[:bad]...)
	scans(t, r, "", "", bad, l[:bad]...)
	scans(t, r, l[bad].Key+"\x00", "", math.MaxInt, l[bad+1:]...)
	if r.Len() != len(l) || r.Size() != len(runOf(l...)) {
		t.Fatalf("Len %d, Size %d", r.Len(), r.Size())
	}
}

// P10.4: several bits turned behind the Open: each pair of which one is turned is ErrBad, and no other one is told otherwise.
func TestFlipMany(t *testing.T) {
	r := rand.New(rand.NewSource(10))
	for range 300 {
		l := rising(1 + r.Intn(12))
		d := fresh(t, 5000)
		x := written(t, d, "r", l...)
		all := runOf(l...)
		for range 1 + r.Intn(30) {
			fine(t, d.Flip("r", r.Intn(len(all)), r.Intn(8)))
		}
		now, _ := d.Read("r", 0, math.MaxInt)
		first := len(l)
		for i, p := range l {
			from, to := len(runOf(l[:i]...)), len(runOf(l[:i+1]...))
			if now[from:to] == all[from:to] {
				gets(t, x, p)
				continue
			}
			fails(t, x, api.ErrBad, p.Key)
			first = min(first, i)
		}
		scans(t, x, "", "", first, l[:first]...)
		if first < len(l) {
			scanFails(t, x, "", "", first+1, api.ErrBad)
		}
		if now != all {
			refused(t, d, "r", api.ErrBad)
		}
	}
}

// P10.1, P10.4: a crash behind each number of calls of a Write, with each number of those that are loose and each number of bytes of the next one: the whole is there, or what is there is no run.
func TestCrashEverywhere(t *testing.T) {
	for _, l := range small() {
		all := runOf(l...)
		for n := range 3 {
			for keep := -1; keep <= 2; keep++ {
				for torn := -1; torn <= len(all)+1; torn++ {
					d := laid(t, "other", "x")
					fine(t, d.Fuse(n))
					want := api.ErrDown
					if n == 2 {
						want = api.OK
					}
					tells(t, want, run.Write(d, "r", l))
					fine(t, d.Crash(keep, torn))
					left := 0
					switch {
					case n == 2, n == 1 && keep >= 1:
						left = len(all)
					case n == 1:
						left = min(max(torn, 0), len(all))
					}
					if behind(t, d, l, left) {
						continue
					}
					fine(t, d.Remove("r"))
					holds(t, written(t, d, "r", l...), l...)
				}
			}
		}
	}
}

// behind fails the test unless the file has the first left bytes of the run of l, and is not opened unless these are all; it tells whether the file is no more than half there.
func behind(t *testing.T, d *disk.Disk, l []api.Pair, left int) bool {
	t.Helper()
	all := runOf(l...)
	if left == 0 {
		missing(t, d, "r")
		refused(t, d, "r", api.ErrNone)
		return true
	}
	file(t, d, "r", all[:left])
	if left == len(all) {
		holds(t, opened(t, d, "r"), l...)
	} else if r, e := run.Open(d, "r"); r != nil || e != api.ErrTorn && e != api.ErrForm {
		t.Fatalf("Open of %d bytes of %d: %v %v", left, len(all), r, e)
	}
	tells(t, api.ErrHave, run.Write(d, "r", l))
	return false
}

// P10.3, P10.4: a run that is open stays what it is behind crashes of its disk, if it was sure; if its file is gone, that is told.
func TestCrashOpen(t *testing.T) {
	l := rising(5)
	d := fresh(t, 5000)
	r := written(t, d, "r", l...)
	fine(t, d.Append("other", "x"), d.Crash(0, 0))
	holds(t, r, l...)
	fine(t, d.Remove("r"))
	fails(t, r, api.ErrNone, l[0].Key)
	fine(t, d.Crash(0, 0))
	holds(t, r, l...)
	fine(t, d.Remove("r"), d.Crash(1, 0))
	fails(t, r, api.ErrNone, l[0].Key)

	d = fresh(t, 5000)
	fine(t, d.Append("r", runOf(l...)))
	r = opened(t, d, "r")
	holds(t, r, l...)
	cut := len(runOf(l[:2]...))
	fine(t, d.Crash(0, cut))
	gets(t, r, l[0])
	gets(t, r, l[1])
	fails(t, r, api.ErrBad, l[2].Key, l[3].Key, l[4].Key)
	misses(t, r, "none")
}

// model is a run told the plain way: its pairs, and the bytes of its file when it was opened.
type model struct {
	r    *run.Run
	name string
	l    []api.Pair
	all  string
}

// get answers what the run has to tell of the pair i of its own, with its file as it is now.
func (m *model) get(d *disk.Disk, i int) api.Errno {
	from, to := len(runOf(m.l[:i]...)), len(runOf(m.l[:i+1]...))
	s, e := d.Read(m.name, from, to-from)
	if e == api.OK && s != m.all[from:to] {
		return api.ErrBad
	}
	return e
}

// asked fails the test unless the run tells of some key and of some bounds what it has to.
func (m *model) asked(t *testing.T, r *rand.Rand, d *disk.Disk) {
	t.Helper()
	key := anyKey(r)
	i := slices.IndexFunc(m.l, func(p api.Pair) bool { return p.Key == key })
	if i < 0 {
		misses(t, m.r, key)
	} else if e := m.get(d, i); e != api.OK {
		fails(t, m.r, e, key)
	} else {
		gets(t, m.r, m.l[i])
	}
	from, to, most := anyBound(r), anyBound(r), r.Intn(len(m.l)+3)-1
	want := within(m.l, from, to, most)
	for _, p := range want {
		if e := m.get(d, slices.Index(m.l, p)); e != api.OK {
			scanFails(t, m.r, from, to, most, e)
			return
		}
	}
	scans(t, m.r, from, to, most, want...)
}

// anyKey is a key of few bytes of few kinds, so that many are the same, and many are beginnings of others.
func anyKey(r *rand.Rand) string {
	b := make([]byte, 1+r.Intn(3))
	for i := range b {
		b[i] = "\x00ab\xff"[r.Intn(4)]
	}
	return string(b)
}

// anyBound is any key, or no byte, or a text longer than a key may be.
func anyBound(r *rand.Rand) string {
	switch r.Intn(10) {
	case 0, 1:
		return ""
	case 2:
		return anyKey(r) + strings.Repeat("a", api.MaxKey)
	}
	return anyKey(r)
}

// anyRow is pairs whose keys rise.
func anyRow(r *rand.Rand) []api.Pair {
	var l []api.Pair
	for range r.Intn(12) {
		if r.Intn(4) == 0 {
			l = append(l, gone(anyKey(r)))
		} else {
			l = append(l, pair(anyKey(r), letters(r.Intn(9))))
		}
	}
	slices.SortFunc(l, func(p, q api.Pair) int { return strings.Compare(p.Key, q.Key) })
	return slices.CompactFunc(l, func(p, q api.Pair) bool { return p.Key == q.Key })
}

// wantOfWrite is what a Write of a right row has to answer.
func wantOfWrite(d *disk.Disk, name string, l []api.Pair, room int) api.Errno {
	_, e := d.Size(name)
	switch {
	case e == api.OK:
		return api.ErrHave
	case e != api.ErrNone:
		return e
	case d.Used()+len(runOf(l...)) > room:
		return api.ErrFull
	}
	return api.OK
}

// befall is what happens to the files of a disk beside the runs' own calls.
func befall(t *testing.T, r *rand.Rand, d *disk.Disk, names []string) string {
	t.Helper()
	name := names[r.Intn(len(names))]
	size, _ := d.Size(name)
	n := r.Intn(16)
	var e api.Errno
	switch n {
	case 0, 1:
		e = d.Remove(name)
	case 2:
		e = d.Append(name, letters(r.Intn(20)))
	case 3:
		e = d.Truncate(name, r.Intn(size+1))
	case 4:
		e = d.Rename(name, names[r.Intn(len(names))])
	case 5, 6, 7, 8, 9:
		e = d.Flip(name, r.Intn(size+1), r.Intn(8))
	case 10:
		e = d.Sync()
	case 11, 12:
		e = d.Crash(r.Intn(3), r.Intn(50))
	}
	return fmt.Sprintf("%d of %s: %v", n, name, e)
}

// P10.1 to P10.4: several runs on one disk in long mixtures of calls and of what befalls their files, against plain models.
func TestMixture(t *testing.T) {
	count := map[api.Errno]int{}
	names := []string{"q", "r", "s"}
	for seed := range 60 {
		r := rand.New(rand.NewSource(int64(seed)))
		room := 60 + 10*seed
		d := fresh(t, room)
		var open []*model
		var done []string
		for range 300 {
			done = append(done, befall(t, r, d, names))
			name, l := names[r.Intn(3)], anyRow(r)
			want := wantOfWrite(d, name, l, room)
			if e := run.Write(d, name, l); e != want {
				t.Fatalf("seed %d, %q: Write of %s: %v, not %v", seed, done, shown(l...), e, want)
			}
			count[want]++
			if want == api.OK {
				forGood(t, d, name, runOf(l...))
				x := opened(t, d, name)
				holds(t, x, l...)
				open = append(open, &model{x, name, l, runOf(l...)})
			}
			open = open[max(0, len(open)-5):]
			for _, m := range open {
				m.asked(t, r, d)
				if m.r.Len() != len(m.l) || m.r.Size() != len(m.all) {
					t.Fatalf("Len %d, Size %d", m.r.Len(), m.r.Size())
				}
				still(t, d, func() { m.asked(t, r, d) })
			}
		}
	}
	for _, e := range []api.Errno{api.OK, api.ErrHave, api.ErrFull} {
		if count[e] < 1000 {
			t.Errorf("%v came %d times alone", e, count[e])
		}
	}
}

// P10.2, P10.3: many pairs, each of which is got: what a Get costs hangs on that pair, not on how many there are.
func TestMany(t *testing.T) {
	l := rising(200000)
	r := written(t, fresh(t, api.MaxRoom), "r", l...)
	holds(t, r, l...)
	for i := 0; i < len(l); i += 37 {
		misses(t, r, l[i].Key+"\x00")
		scans(t, r, l[i].Key, "", 3, l[i:min(i+3, len(l))]...)
	}
}
