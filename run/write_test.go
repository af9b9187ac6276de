package run_test

import (
	"slices"
	"strings"
	"testing"

	"fascicle/api"
	"fascicle/run"
)

// wrongNames may not be.
func wrongNames() []string {
	return []string{"", "A", "a_b", "a b", "a/b", "\x00", "\xff", "\u00e9", strings.Repeat("a", api.MaxFile+1), strings.Repeat("a", 1000)}
}

// wrongPairs may not be.
func wrongPairs() []api.Pair {
	tooLong := longKey + "m"
	return []api.Pair{
		{}, pair("", "1"), gone(""), pair(tooLong, ""), pair(tooLong, "1"), gone(tooLong), pair(letters(70000), "1"),
		pair("b", letters(api.MaxVal+1)), pair(longKey, letters(2*api.MaxVal)), pair("", letters(api.MaxVal+1)),
		{Key: "b", Value: "1", Gone: true}, {Key: "b", Value: letters(api.MaxVal), Gone: true}, {Key: "b", Value: letters(api.MaxVal + 1), Gone: true}, {Value: "1", Gone: true},
	}
}

// P10.1: rows of all kinds: the bytes of a run, for good, put there by two calls of the disk.
func TestWrite(t *testing.T) {
	for _, l := range append(lists(), rising(1000)) {
		for _, name := range []string{"r", strings.Repeat("z", api.MaxFile), "-.0"} {
			d := fresh(t, api.MaxRoom)
			burns(t, d, 2, func() { fine(t, run.Write(d, name, l)) })
			forGood(t, d, name, runOf(l...))
			if names := d.Names(); !slices.Equal(names, []string{name}) {
				t.Fatalf("files %q", names)
			}
			holds(t, opened(t, d, name), l...)
		}
	}
}

// P10.1: the bytes of some runs, written out.
func TestWriteBytes(t *testing.T) {
	const eight = "\x08\x00\x00\x00\xf3\xf7\xf0\xe4" // a text of 8 bytes, and the sum of that count
	for _, x := range []struct {
		l    []api.Pair
		want string
	}{
		{nil, eight + "\x69\xdf\x22\x65" + "\x00\x00\x00\x00\x00\x00\x00\x00"},
		{[]api.Pair{pair("a", "1")}, eight + "\xf7\xdf\x88\xa9" + "\x01\x00\x00\x00\x00\x00\x00\x00" +
			"\x05\x00\x00\x00\x2e\x2f\x9a\x16\xa4\xca\xa6\x53" + "\x00\x01\x00a1"},
		{[]api.Pair{gone("bc")}, eight + "\xf7\xdf\x88\xa9" + "\x01\x00\x00\x00\x00\x00\x00\x00" +
			"\x05\x00\x00\x00\x2e\x2f\x9a\x16\xe1\x2f\x3b\xd2" + "\x01\x02\x00bc"},
		{[]api.Pair{pair("a", ""), pair("b", "\x00\x01")}, eight + "\x14\xd8\x07\x27" + "\x02\x00\x00\x00\x00\x00\x00\x00" +
			"\x04\x00\x00\x00\x4b\x48\x26\xae\xe5\xe4\x33\x1a" + "\x00\x01\x00a" +
			"\x06\x00\x00\x00\xc0\x80\x2f\x04\xcb\xa7\xf6\xb0" + "\x00\x01\x00b\x00\x01"},
	} {
		d := fresh(t, 1000)
		fine(t, run.Write(d, "r", x.l))
		file(t, d, "r", x.want)
		if made := runOf(x.l...); made != x.want {
			t.Errorf("the test's own bytes of %s: %q, not %q", shown(x.l...), made, x.want)
		}
	}
}

// P10.1: a key's count of bytes is told lowest byte first, up to the limit.
func TestWriteLongKeys(t *testing.T) {
	for _, n := range []int{1, 2, 255, 256, 257, api.MaxKey - 1, api.MaxKey} {
		l := []api.Pair{pair(longKey[:n], "1"), gone("z" + longKey[:n-1])}
		d := fresh(t, 2000)
		fine(t, run.Write(d, "r", l))
		s := runOf(l...)
		if at := 20 + api.HeadSize; s[at:at+3] != string([]byte{0, byte(n), byte(n >> 8)}) {
			t.Fatalf("%q", s[at:at+3])
		}
		forGood(t, d, "r", s)
		holds(t, opened(t, d, "r"), l...)
	}
}

// P10.1: a pair that may not be, of each kind, at each place of a row: ErrArg, and nothing is done; also where keys fall ahead of it or behind it, and where the disk tells an error of its own.
func TestWriteWrongPair(t *testing.T) {
	d := laid(t, "have", "x")
	full := fresh(t, 0)
	for _, wrong := range wrongPairs() {
		for n := 1; n <= 4; n++ {
			for at := range n {
				row := rising(n)
				row[at] = wrong
				falling := slices.Clone(row)
				slices.Reverse(falling)
				for _, l := range [][]api.Pair{row, falling, slices.Repeat(row, 2)} {
					same(t, d, func() {
						tells(t, api.ErrArg, run.Write(d, "r", l), run.Write(d, "have", l), run.Write(d, "", l), run.Write(full, "r", l))
					})
					missing(t, d, "r")
					still(t, d, func() { tells(t, api.ErrArg, run.Write(d, "r", l), run.Write(d, "have", l), run.Write(d, "Wrong", l)) })
				}
			}
		}
	}
}

// P10.1: keys that fall, or are the same, at each place: ErrKeys, and nothing is done, whatever the disk would tell.
func TestWriteKeys(t *testing.T) {
	d := laid(t, "have", "x")
	full := fresh(t, 0)
	refuse := func(l []api.Pair) {
		t.Helper()
		same(t, d, func() {
			tells(t, api.ErrKeys, run.Write(d, "r", l), run.Write(d, "have", l), run.Write(d, "", l), run.Write(full, "r", l))
		})
		missing(t, d, "r")
		still(t, d, func() { tells(t, api.ErrKeys, run.Write(d, "r", l), run.Write(d, "have", l), run.Write(d, "Wrong", l)) })
	}
	for _, x := range [][2]string{{"b", "a"}, {"ab", "a"}, {"a\x00", "a"}, {"\x80", "\x7f"}, {"\xff", "\x00"}, {"a", "B"}, {"é", "z"}, {longKey, longKey[1:]}, {"10", "1"}, {"2", "10"}} {
		refuse([]api.Pair{pair(x[0], "1"), pair(x[1], "2")})
		refuse([]api.Pair{gone(x[0]), gone(x[1])})
		refuse([]api.Pair{pair(x[0], ""), pair(x[0], "")})
		refuse([]api.Pair{gone(x[1]), pair(x[1], "1")})
		refuse([]api.Pair{pair(x[1], "2"), gone(x[1])})
		refuse([]api.Pair{pair(x[1], "1"), pair(x[0], "2"), pair(x[1], "1")})
		fine(t, run.Write(fresh(t, 2000), "r", []api.Pair{pair(x[1], "2"), pair(x[0], "1")}))
	}
	for n := 2; n <= 6; n++ {
		for at := 1; at < n; at++ {
			l := rising(n)
			l[at-1], l[at] = l[at], l[at-1]
			refuse(l)
			l = rising(n)
			l[at].Key = l[at-1].Key
			refuse(l)
			l = rising(n)
			l[at].Key = l[0].Key
			refuse(l)
		}
	}
}

// P10.1: names that may not be: the disk's ErrArg, and nothing is done.
func TestWriteWrongName(t *testing.T) {
	d := laid(t, "a", "x")
	for _, name := range wrongNames() {
		for _, l := range lists() {
			same(t, d, func() { tells(t, api.ErrArg, run.Write(d, name, l)) })
		}
	}
}

// P10.1: a file that is there already, whatever it is, also a loose one: ErrHave, ahead of a want of room, and it stays what it was.
func TestWriteHave(t *testing.T) {
	for _, have := range []string{"", "x", runOf(), runOf(pair("a", "1")), runOf(pair("a", "1"))[:30], letters(300)} {
		d := laid(t, "r", have)
		for range 2 {
			for _, l := range lists() {
				same(t, d, func() { tells(t, api.ErrHave, run.Write(d, "r", l)) })
			}
			fine(t, d.Room(0))
			same(t, d, func() { tells(t, api.ErrHave, run.Write(d, "r", []api.Pair{pair("a", "1")})) })
			fine(t, d.Room(api.MaxRoom), d.Append("s", ""), d.Append("r", ""))
		}
		fine(t, d.Sync(), d.Remove("r"))
		written(t, d, "r", pair("b", "2"))
		forGood(t, d, "r", runOf(pair("b", "2")))
	}
	d := fresh(t, 1000)
	fine(t, d.Append("r", "x"))
	same(t, d, func() { tells(t, api.ErrHave, run.Write(d, "r", nil)) })
}

// P10.1: too little room, by each number of bytes: ErrFull, no file is made, and nothing has changed; with as much as it needs it is written.
func TestWriteFull(t *testing.T) {
	for _, l := range lists()[:10] {
		need := len(runOf(l...))
		for n := range need {
			d := fresh(t, n+3)
			fine(t, d.Append("other", "xyz"), d.Sync(), d.Append("loose", ""))
			same(t, d, func() { tells(t, api.ErrFull, run.Write(d, "r", l), run.Write(d, "r", l)) })
			missing(t, d, "r")
			fine(t, d.Room(need+3))
			holds(t, written(t, d, "r", l...), l...)
			forGood(t, d, "r", runOf(l...))
		}
	}
	d := fresh(t, api.MaxRoom)
	l := rising(70)
	for i := range l {
		l[i] = pair(l[i].Key, letters(api.MaxVal))
	}
	tells(t, api.ErrFull, run.Write(d, "r", l))
	missing(t, d, "r")
}

// P10.1: a run that fills a disk of the greatest room to its last byte, and one of a byte more.
func TestWriteLongest(t *testing.T) {
	l := rising(64)
	for i := range l {
		l[i] = pair(l[i].Key, letters(api.MaxVal))
	}
	last := &l[63].Value
	*last = ""
	*last = letters(api.MaxRoom - len(runOf(l...)) + 1)
	d := fresh(t, api.MaxRoom)
	tells(t, api.ErrFull, run.Write(d, "r", l))
	missing(t, d, "r")
	*last = (*last)[1:]
	r := written(t, d, "r", l...)
	if r.Size() != api.MaxRoom || d.Used() != api.MaxRoom {
		t.Fatalf("Size %d, used %d", r.Size(), d.Used())
	}
	holds(t, r, l...)
}

// P10.1: the fuse at each call: what was appended is there as a whole behind some crash, or is not.
func TestWriteFuse(t *testing.T) {
	for _, l := range lists()[:10] {
		d := laid(t, "other", "x")
		fine(t, d.Fuse(0))
		tells(t, api.ErrDown, run.Write(d, "r", l), run.Write(d, "r", l))
		fine(t, d.Fuse(-1))
		missing(t, d, "r")
		if d.Loose() != 0 {
			t.Fatalf("loose %d", d.Loose())
		}

		d = laid(t, "other", "x")
		fine(t, d.Fuse(1))
		tells(t, api.ErrDown, run.Write(d, "r", l), run.Write(d, "r", l))
		fine(t, d.Fuse(-1))
		if d.Loose() != 1 {
			t.Fatalf("loose %d", d.Loose())
		}
		file(t, d, "r", runOf(l...))
		tells(t, api.ErrHave, run.Write(d, "r", l))
		fine(t, d.Crash(0, 0))
		missing(t, d, "r")
		holds(t, written(t, d, "r", l...), l...)
	}
}

// P10.1: a disk that stands still tells ErrDown, whatever is there and whatever the name, ahead of ErrHave and ErrFull.
func TestWriteStill(t *testing.T) {
	d := laid(t, "have", "x")
	fine(t, d.Room(1))
	before := seen(t, d)
	still(t, d, func() {
		for _, l := range lists() {
			for _, name := range append(wrongNames(), "r", "have") {
				tells(t, api.ErrDown, run.Write(d, name, l))
			}
		}
	})
	if after := seen(t, d); after != before {
		t.Fatalf("%s, not %s", after, before)
	}
}

// P10.1: the Sync makes sure what else is loose.
func TestWriteSyncsAll(t *testing.T) {
	d := fresh(t, 1000)
	fine(t, d.Append("other", "x"), run.Write(d, "r", nil))
	forGood(t, d, "other", "x")
	file(t, d, "r", runOf())
}

// R5: the row is as it was, and is not kept.
func TestWriteRow(t *testing.T) {
	d := fresh(t, 1000)
	l := []api.Pair{pair("a", "1"), gone("b"), pair("c", "")}
	was := slices.Clone(l)
	fine(t, run.Write(d, "r", l))
	wrong := []api.Pair{pair("c", ""), gone("b"), pair("a", "1")}
	tells(t, api.ErrKeys, run.Write(d, "s", wrong))
	slices.Reverse(wrong)
	if !slices.Equal(l, was) || !slices.Equal(wrong, was) {
		t.Fatalf("%s and %s, not %s", shown(l...), shown(wrong...), shown(was...))
	}
	clear(l)
	holds(t, opened(t, d, "r"), was...)
}
