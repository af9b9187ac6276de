package disk_test

import (
	"maps"
	"slices"
	"strings"
	"testing"

	"fascicle/api"
	"fascicle/disk"
)

// deed is a call that changes, as the model of a disk has it.
type deed struct {
	kind     int // 0: Append, 1: Truncate, 2: Rename, 3: Remove
	name, to string
	text     string
	n        int
}

// model is a disk told the plain way: the files of the last Sync, and a list of what was done since.
type model struct {
	room  int
	sure  map[string]string
	done  []deed
	fuse  int
	still bool
}

// behind answers what files are behind the first n deeds, and torn bytes of the next one.
func (m *model) behind(n, torn int) map[string]string {
	files := maps.Clone(m.sure)
	for _, x := range m.done[:n] {
		x.do(files)
	}
	if n < len(m.done) && m.done[n].kind == 0 && torn > 0 {
		x := m.done[n]
		x.text = x.text[:min(torn, len(x.text))]
		x.do(files)
	}
	return files
}

func (m *model) now() map[string]string { return m.behind(len(m.done), 0) }

func (x deed) do(files map[string]string) {
	switch x.kind {
	case 0:
		files[x.name] += x.text
	case 1:
		files[x.name] = files[x.name][:x.n]
	case 2:
		files[x.to] = files[x.name]
		delete(files, x.name)
	case 3:
		delete(files, x.name)
	}
}

// try is what a deed answers; it is done if that is OK.
func (m *model) try(x deed) api.Errno {
	files := m.now()
	_, is := files[x.name]
	used := 0
	for _, s := range files {
		used += len(s)
	}
	switch {
	case m.still:
		return api.ErrDown
	case x.kind == 1 && x.n < 0, x.kind == 2 && x.name == x.to:
		return api.ErrArg
	case x.kind != 0 && !is:
		return api.ErrNone
	case x.kind == 1 && x.n > len(files[x.name]):
		return api.ErrArg
	case x.kind == 0 && x.text != "" && used+len(x.text) > m.room:
		return api.ErrFull
	}
	if e := m.burn(); e != api.OK {
		return e
	}
	m.done = append(m.done, x)
	return api.OK
}

func (m *model) burn() api.Errno {
	if m.still || m.fuse == 0 {
		m.still = true
		return api.ErrDown
	}
	if m.fuse > 0 {
		m.fuse--
	}
	return api.OK
}

func (m *model) sync() api.Errno {
	if e := m.burn(); e != api.OK {
		return e
	}
	m.sure, m.done = m.now(), nil
	return api.OK
}

func (m *model) crash(keep, torn int) {
	m.sure = m.behind(min(max(keep, 0), len(m.done)), torn)
	m.done, m.fuse, m.still = nil, -1, false
}

func (m *model) flip(name string, off, bit int) api.Errno {
	s, is := m.now()[name]
	switch {
	case m.still:
		return api.ErrDown
	case !is:
		return api.ErrNone
	case off >= len(s):
		return api.ErrArg
	case len(m.done) > 0:
		return api.ErrLoose
	}
	text := []byte(s)
	text[off] ^= 1 << bit
	m.sure[name] = string(text)
	return api.OK
}

// told is files as has wants them.
func told(files map[string]string) string {
	var l []string
	for _, name := range slices.Sorted(maps.Keys(files)) {
		l = append(l, name+":"+files[name])
	}
	return strings.Join(l, " ")
}

// lot draws numbers, the same ones for the same beginning.
type lot uint64

func (x *lot) below(n int) int {
	*x = *x*6364136223846793005 + 1442695040888963407
	return int(uint64(*x) >> 33 % uint64(n))
}

// drawn is a deed out of few names and small numbers, so that they meet often.
func drawn(x *lot) deed {
	names := []string{"a", "b", "c", "d-1.x"}
	return deed{
		kind: []int{0, 0, 0, 1, 2, 3}[x.below(6)],
		name: names[x.below(4)],
		to:   names[x.below(4)],
		text: "abcdefghij"[:x.below(8)],
		n:    x.below(10) - 1,
	}
}

// ask does the deed at the disk.
func ask(d *disk.Disk, x deed) api.Errno {
	switch x.kind {
	case 0:
		return d.Append(x.name, x.text)
	case 1:
		return d.Truncate(x.name, x.n)
	case 2:
		return d.Rename(x.name, x.to)
	}
	return d.Remove(x.name)
}

// step does one thing at both, and answers what both tell.
func step(d *disk.Disk, m *model, x *lot) (got, want api.Errno) {
	switch k := x.below(40); {
	case k < 28:
		y := drawn(x)
		return ask(d, y), m.try(y)
	case k < 32:
		return d.Sync(), m.sync()
	case k < 34:
		n := x.below(9) - 1
		if n < 0 {
			m.still = false
		}
		m.fuse = n
		return d.Fuse(n), api.OK
	case k < 37:
		keep, torn := x.below(7)-1, x.below(9)-1
		m.crash(keep, torn)
		return d.Crash(keep, torn), api.OK
	case k < 39:
		name, off, bit := drawn(x).name, x.below(6), x.below(8)
		return d.Flip(name, off, bit), m.flip(name, off, bit)
	}
	m.room = x.below(50)
	return d.Room(m.room), api.OK
}

// same fails the test unless the disk is what the model is, also where it stands still.
func same(t *testing.T, d *disk.Disk, m *model) {
	t.Helper()
	loose(t, d, len(m.done))
	files := m.now()
	if !m.still {
		has(t, d, told(files))
		return
	}
	used := 0
	for name, s := range files {
		used += len(s)
		if got, e := d.Read(name, 0, 9); got != "" || e != api.ErrDown {
			t.Fatalf("%q %v", got, e)
		}
	}
	if d.Used() != used || !slices.Equal(d.Names(), slices.Sorted(maps.Keys(files))) {
		t.Fatalf("%d %q, not %d %q", d.Used(), d.Names(), used, told(files))
	}
}

// P2.1 to P2.5: the disk answers what its model does, through long mixtures of all calls.
func TestMixtures(t *testing.T) {
	for seed := range 300 {
		x := lot(seed)
		m := &model{room: x.below(50), sure: map[string]string{}, fuse: -1}
		d := fresh(t, m.room)
		for i := range 300 {
			if got, want := step(d, m, &x); got != want {
				t.Fatalf("mixture %d, step %d: %v, not %v", seed, i, got, want)
			}
			same(t, d, m)
		}
	}
}

// P2.5: the same loose calls, and each crash that they may have: what is there is what was behind some of them, but for a piece of one Append.
func TestEachCrash(t *testing.T) {
	for seed := range 60 {
		for keep := -1; keep < 9; keep++ {
			for torn := -1; torn < 9; torn++ {
				d, m := laid(t, lot(seed))
				fine(t, d.Crash(keep, torn))
				m.crash(keep, torn)
				same(t, d, m)
				fine(t, d.Append("a", "behind"), d.Crash(0, 0))
				same(t, d, m)
			}
		}
	}
}

// laid is a disk, and its model, with something sure and some calls loose.
func laid(t *testing.T, x lot) (*disk.Disk, *model) {
	t.Helper()
	m := &model{room: 200, sure: map[string]string{}, fuse: -1}
	d := fresh(t, m.room)
	for i := range 24 {
		y := drawn(&x)
		if got, want := ask(d, y), m.try(y); got != want {
			t.Fatalf("%v, not %v", got, want)
		}
		if i == 15 {
			fine(t, d.Sync(), m.sync())
		}
	}
	return d, m
}

// P2.5: with nothing loose a crash leaves all as it was, whatever it keeps and tears.
func TestNothingLoose(t *testing.T) {
	for seed := range 60 {
		d, m := laid(t, lot(seed))
		fine(t, d.Sync(), m.sync())
		for _, n := range []int{-1, 0, 1, 5} {
			fine(t, d.Crash(n, 0), d.Crash(0, n), d.Crash(n, n))
			same(t, d, m)
		}
	}
}

// P2.5: a disk that stands still does nothing: behind a crash it is as if nothing had been called.
func TestStillDoesNothing(t *testing.T) {
	for seed := range 60 {
		for keep := range 9 {
			x := lot(seed)
			d, m := laid(t, x)
			fine(t, d.Fuse(0))
			tells(t, api.ErrDown, d.Sync(), d.Append("a", "x"))
			for range 20 {
				tells(t, api.ErrDown, ask(d, drawn(&x)), d.Sync(), d.Flip("a", 0, 0))
			}
			loose(t, d, len(m.done))
			fine(t, d.Crash(keep, 0))
			m.crash(keep, 0)
			same(t, d, m)
		}
	}
}
