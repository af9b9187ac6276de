package man_test

import (
	"slices"
	"strings"
	"testing"

	"fascicle/api"
	"fascicle/disk"
	"fascicle/man"
)

// wrongNames may not be, nor with .new behind them.
func wrongNames() []string {
	return []string{"A", "a_b", "a b", "a/b", "\x00", "\xff", "\u00e9", strings.Repeat("a", api.MaxFile+1), strings.Repeat("a", 1000)}
}

// longNames may be, but not with .new behind them.
func longNames() []string {
	var l []string
	for n := api.MaxFile - 3; n <= api.MaxFile; n++ {
		l = append(l, strings.Repeat("a", n))
	}
	return l
}

// rightNames may be, also with .new behind them.
func rightNames() []string {
	return []string{"m", "-.0", ".new", "m.new", strings.Repeat("z", api.MaxFile-4)}
}

// P11.2: mans of all kinds, under names of all kinds: for good, by four calls of the disk, and no other file is there.
func TestSave(t *testing.T) {
	for _, m := range mans() {
		for _, name := range rightNames() {
			d := fresh(t, api.MaxRoom)
			burns(t, d, 4, func() { fine(t, man.Save(d, name, m)) })
			forGood(t, d, name, m)
			if names := d.Names(); !slices.Equal(names, []string{name}) {
				t.Fatalf("files %q", names)
			}
		}
	}
}

// P11.2: a man over another one, of more or of fewer bytes, or over the same: it is in its place.
func TestSaveOver(t *testing.T) {
	for _, m := range mans() {
		for _, n := range mans() {
			d := fresh(t, api.MaxRoom)
			fine(t, man.Save(d, "m", m))
			burns(t, d, 4, func() { fine(t, man.Save(d, "m", n)) })
			forGood(t, d, "m", n)
			if names := d.Names(); !slices.Equal(names, []string{"m"}) {
				t.Fatalf("files %q", names)
			}
		}
	}
}

// P11.2: over files that are no man's: under the name, under that and .new, or both; loose or sure; all others stay.
func TestSaveOverAny(t *testing.T) {
	m := of(1, 9, 2)
	for _, there := range []string{"", "x", bytesOf(of(1, 2)), bytesOf(m), bytesOf(m)[:20], letters(1000)} {
		for _, sure := range []int{0, 1} {
			for k := range 4 {
				d, calls := fresh(t, api.MaxRoom), 4
				fine(t, d.Append("other", "xyz"), d.Append("m.ne", ""), d.Append("m.new.new", "1"))
				if k&1 != 0 {
					fine(t, d.Append("m", there))
				}
				if k&2 != 0 {
					fine(t, d.Append("m.new", there))
					calls++
				}
				for range sure {
					fine(t, d.Sync())
				}
				burns(t, d, calls, func() { fine(t, man.Save(d, "m", m)) })
				forGood(t, d, "m", m)
				file(t, d, "other", "xyz")
				file(t, d, "m.ne", "")
				file(t, d, "m.new.new", "1")
			}
		}
	}
}

// P11.2: a man that may not be: ErrArg, ahead of what the disk would tell, and nothing is done.
func TestSaveWrongMan(t *testing.T) {
	d := laid(t, "m", "x")
	fine(t, d.Append("m.new", "y"))
	full := fresh(t, 0)
	for _, m := range wrongMans() {
		for _, name := range append(wrongNames(), "", "m", "n") {
			same(t, d, func() { tells(t, api.ErrArg, man.Save(d, name, m)) })
			same(t, full, func() { tells(t, api.ErrArg, man.Save(full, name, m)) })
			still(t, d, func() { tells(t, api.ErrArg, man.Save(d, name, m)) })
		}
		fine(t, d.Append("m", "x"), d.Sync(), d.Append("m.new", "y"))
	}
}

// P11.2: names that may not be, or not with .new behind them: the disk's ErrArg, and nothing is done.
func TestSaveWrongName(t *testing.T) {
	d := laid(t, "a", "x")
	for _, name := range append(wrongNames(), longNames()...) {
		for _, m := range few() {
			same(t, d, func() { tells(t, api.ErrArg, man.Save(d, name, m)) })
			still(t, d, func() { tells(t, api.ErrDown, man.Save(d, name, m)) })
		}
	}
}

// P11.2: a name of no bytes may not be, but .new may: all is done up to the Rename.
func TestSaveNoName(t *testing.T) {
	for _, there := range []int{0, 1} {
		d := fresh(t, 1000)
		for range there {
			fine(t, d.Append(".new", letters(500)))
		}
		burns(t, d, 2+there, func() { tells(t, api.ErrArg, man.Save(d, "", of(1, 2))) })
		if d.Loose() != 0 {
			t.Fatalf("loose %d", d.Loose())
		}
		file(t, d, ".new", bytesOf(of(1, 2)))
		if names := d.Names(); !slices.Equal(names, []string{".new"}) {
			t.Fatalf("files %q", names)
		}
	}
}

// P11.2: too little room, by each number of bytes, with nothing there: ErrFull, no file is made, and nothing has changed; with as much as it needs it is saved.
func TestSaveFull(t *testing.T) {
	for _, m := range few() {
		need := len(bytesOf(m))
		for n := range need {
			d := fresh(t, n+3)
			fine(t, d.Append("other", "xyz"), d.Sync(), d.Append("loose", ""))
			same(t, d, func() { tells(t, api.ErrFull, man.Save(d, "m", m), man.Save(d, "m", m)) })
			missing(t, d, "m.new")
			refused(t, d, "m", api.ErrNone)
			fine(t, d.Room(need+3), man.Save(d, "m", m))
			forGood(t, d, "m", m)
		}
	}
}

// P11.2: too little room over a man that is there: ErrFull, the man stays, also behind a crash, and no file .new is there; with room for both it is saved.
func TestSaveFullOver(t *testing.T) {
	for _, old := range few() {
		for _, m := range few() {
			has, need := len(bytesOf(old)), len(bytesOf(m))
			for n := 0; n < need; n += 3 {
				for _, crash := range []int{0, 1} {
					d := fresh(t, api.MaxRoom)
					fine(t, man.Save(d, "m", old), d.Room(has+n))
					same(t, d, func() { tells(t, api.ErrFull, man.Save(d, "m", m)) })
					for range crash {
						fine(t, d.Crash(n%2, 9))
					}
					forGood(t, d, "m", old)
					fine(t, d.Room(has+need-1))
					tells(t, api.ErrFull, man.Save(d, "m", m))
					fine(t, d.Room(has+need), man.Save(d, "m", m))
					forGood(t, d, "m", m)
				}
			}
		}
	}
}

// P11.2: too little room where a file .new is there: it is not there any more; the room that it had is the man's.
func TestSaveFullBeside(t *testing.T) {
	old, m := of(1, 2), of(1, 9, 2, 3)
	has, need := len(bytesOf(old)), len(bytesOf(m))
	for _, beside := range []string{"", "x", bytesOf(old), bytesOf(m), letters(500)} {
		d := fresh(t, api.MaxRoom)
		fine(t, man.Save(d, "m", old), d.Append("m.new", beside), d.Sync(), d.Room(has+need-1))
		burns(t, d, 1, func() { tells(t, api.ErrFull, man.Save(d, "m", m), man.Save(d, "m", m)) })
		missing(t, d, "m.new")
		loads(t, d, "m", old)
		if d.Loose() != 1 || d.Used() != has {
			t.Fatalf("loose %d, used %d", d.Loose(), d.Used())
		}
		fine(t, d.Crash(0, 0))
		loads(t, d, "m", old)
		file(t, d, "m.new", beside)
		fine(t, d.Room(has+need), man.Save(d, "m", m))
		forGood(t, d, "m", m)
	}
}

// P11.2: a disk that stands still at each of the calls: ErrDown, and what was done ahead of it is done, and no more.
func TestSaveFuse(t *testing.T) {
	old := of(1, 2)
	for _, m := range few() {
		all := bytesOf(m)
		for n := range 4 {
			d := fresh(t, api.MaxRoom)
			fine(t, man.Save(d, "m", old), d.Fuse(n))
			tells(t, api.ErrDown, man.Save(d, "m", m), man.Save(d, "m", m))
			refused(t, d, "m", api.ErrDown)
			loose := []int{0, 1, 0, 1}[n]
			if d.Loose() != loose {
				t.Fatalf("fuse %d: loose %d, not %d", n, d.Loose(), loose)
			}
			fine(t, d.Crash(9, 0))
			switch n {
			case 0:
				missing(t, d, "m.new")
				file(t, d, "m", bytesOf(old))
			case 1, 2:
				file(t, d, "m.new", all)
				file(t, d, "m", bytesOf(old))
			case 3:
				missing(t, d, "m.new")
				file(t, d, "m", all)
			}
		}
	}
}

// P11.2: the same, with a file .new that is there already.
func TestSaveFuseBeside(t *testing.T) {
	old, m := of(1, 2), of(3, 9, 2)
	for n := range 5 {
		d := fresh(t, api.MaxRoom)
		fine(t, man.Save(d, "m", old), d.Append("m.new", "xyz"), d.Sync(), d.Fuse(n))
		tells(t, api.ErrDown, man.Save(d, "m", m))
		loose := []int{0, 1, 2, 0, 1}[n]
		if d.Loose() != loose {
			t.Fatalf("fuse %d: loose %d, not %d", n, d.Loose(), loose)
		}
		fine(t, d.Crash(9, 0))
		switch n {
		case 0:
			file(t, d, "m.new", "xyz")
			file(t, d, "m", bytesOf(old))
		case 1:
			missing(t, d, "m.new")
			file(t, d, "m", bytesOf(old))
		case 2, 3:
			file(t, d, "m.new", bytesOf(m))
			file(t, d, "m", bytesOf(old))
		case 4:
			missing(t, d, "m.new")
			file(t, d, "m", bytesOf(m))
		}
		fine(t, man.Save(d, "m", m))
		forGood(t, d, "m", m)
	}
}

// P11.2: Load asks the disk first: no such file, names that may not be, a disk that stands still.
func TestLoadRefused(t *testing.T) {
	d := fresh(t, 1000)
	fine(t, man.Save(d, "m", of(1, 2)))
	same(t, d, func() {
		for _, name := range append(wrongNames(), "") {
			refused(t, d, name, api.ErrArg)
		}
		for _, name := range append(longNames(), "n", "m.new", ".new", "mm", "-") {
			refused(t, d, name, api.ErrNone)
		}
		loads(t, d, "m", of(1, 2))
	})
	still(t, d, func() {
		for _, name := range append(wrongNames(), "", "m", "n") {
			refused(t, d, name, api.ErrDown)
		}
	})
	loads(t, d, "m", of(1, 2))
}

// P11.2: Load of files that are no man's: Get's error; a file .new is not asked.
func TestLoadAny(t *testing.T) {
	m := of(1, 9, 4, 2)
	all := bytesOf(m)
	for _, x := range []struct {
		file string
		e    api.Errno
	}{
		{"", api.ErrForm}, {"x", api.ErrTorn}, {all[:len(all)-1], api.ErrTorn}, {all + "x", api.ErrTorn}, {letters(100), api.ErrBad}, {all + letters(20), api.ErrBad},
		{all + all, api.ErrForm}, {framed("x"), api.ErrForm}, {framed(textOf(m) + "x"), api.ErrForm}, {bytesOf(api.Man{}), api.ErrForm}, {bytesOf(of(1, most+1)), api.ErrForm},
		{framed(strings.Repeat("\x00", api.MaxFrame)), api.ErrForm}, {framed(strings.Repeat("\x00", api.MaxFrame)) + letters(api.MaxRoom-api.MaxFrame-api.HeadSize), api.ErrBad},
	} {
		d := laid(t, "m", x.file)
		same(t, d, func() { refused(t, d, "m", x.e) })
		if len(x.file) == api.MaxRoom {
			continue // there is no room for a file beside
		}
		fine(t, d.Append("m.new", all))
		refused(t, d, "m", x.e)
		loads(t, d, "m.new", m)
		fine(t, d.Rename("m.new", "n"), d.Rename("m", "n.new"))
		loads(t, d, "n", m)
		refused(t, d, "n.new", x.e)
	}
}

// P11.2: a file of a man, loose or sure, under any name that a file may have.
func TestLoad(t *testing.T) {
	for _, m := range mans() {
		for _, name := range append(rightNames(), longNames()...) {
			d := fresh(t, api.MaxRoom)
			fine(t, d.Append(name, bytesOf(m)[:10]), d.Append(name, bytesOf(m)[10:]))
			same(t, d, func() { loads(t, d, name, m) })
			fine(t, d.Sync())
			same(t, d, func() { loads(t, d, name, m) })
		}
	}
}

// P11.2: each bit of a man's file turned: it is bad, till it is turned again, or another one is saved.
func TestLoadFlip(t *testing.T) {
	for _, m := range few() {
		d := fresh(t, api.MaxRoom)
		fine(t, man.Save(d, "m", m))
		for off := range bytesOf(m) {
			for bit := range 8 {
				fine(t, d.Flip("m", off, bit))
				refused(t, d, "m", api.ErrBad)
				fine(t, d.Flip("m", off, bit))
				loads(t, d, "m", m)
			}
			fine(t, d.Flip("m", off, off%8), man.Save(d, "m", m))
			forGood(t, d, "m", m)
		}
	}
}

// P11.2, R5: a man that was saved or loaded shares no memory with what is changed later.
func TestSaveShare(t *testing.T) {
	d := fresh(t, 1000)
	m := of(1, 9, 2, 3, 4)
	fine(t, man.Save(d, "m", m))
	m.Runs[0] = 7
	loads(t, d, "m", of(1, 9, 2, 3, 4))
	got, e := man.Load(d, "m")
	fine(t, e)
	got.Runs[1] = 8
	loads(t, d, "m", of(1, 9, 2, 3, 4))
	fine(t, man.Save(d, "m", got))
	loads(t, d, "m", of(1, 9, 2, 8, 4))
	if !equal(m, of(1, 9, 7, 3, 4)) {
		t.Fatalf("%v", m)
	}
}

// P11.2: two mans under two names on one disk, and on two disks: each is its own.
func TestSaveTwo(t *testing.T) {
	d, other := fresh(t, api.MaxRoom), fresh(t, api.MaxRoom)
	for _, m := range mans() {
		for _, n := range mans() {
			fine(t, man.Save(d, "m", m), man.Save(d, "n", n), man.Save(other, "m", n))
			forGood(t, d, "m", m)
			forGood(t, d, "n", n)
			forGood(t, other, "m", n)
			fine(t, man.Save(d, "m", n))
			forGood(t, d, "m", n)
			forGood(t, d, "n", n)
		}
	}
	refused(t, other, "n", api.ErrNone)
}

// had is what a disk has under a name: a man, or none, as Load tells it.
func had(d *disk.Disk, name string) (api.Man, bool, api.Errno) {
	m, e := man.Load(d, name)
	if e == api.ErrNone {
		return api.Man{}, false, api.OK
	}
	return m, e == api.OK, e
}
