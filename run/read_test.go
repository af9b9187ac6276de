package run_test

import (
	"bytes"
	"math"
	"slices"
	"strings"
	"testing"

	"fascicle/api"
	"fascicle/disk"
	"fascicle/run"
)

// within has those of l whose keys are within from and to, the first most of them, as layer 9's words say.
func within(l []api.Pair, from, to string, most int) []api.Pair {
	var is []api.Pair
	for _, p := range l {
		ahead := bytes.Compare([]byte(p.Key), []byte(from)) < 0
		if !ahead && (to == "" || bytes.Compare([]byte(p.Key), []byte(to)) < 0) && len(is) < most {
			is = append(is, p)
		}
	}
	return is
}

// mosts has how many pairs may be wanted of n, at each edge.
func mosts(n int) []int {
	return []int{math.MinInt, math.MinInt + 1, -n, -1, 0, 1, 2, n - 1, n, n + 1, 1 << 32, math.MaxInt - 1, math.MaxInt}
}

// bounds has texts about the keys of l: each one, what is next to it on both sides, what is ahead of all and behind all, and ones longer than keys may be.
func bounds(l []api.Pair) []string {
	all := []string{"", "\x00", "\xff", "a", "ab", "\x00\x00\x00", "\xff\xff\xff", strings.Repeat("\xff", api.MaxKey+1), strings.Repeat("\x00", api.MaxKey+1)}
	for _, p := range l {
		all = append(all, p.Key, p.Key+"\x00", p.Key+"\xff", p.Key[:len(p.Key)-1])
	}
	slices.Sort(all)
	return slices.Compact(all)
}

// P10.3: each key is there, what is near one is not; nothing is done to the disk.
func TestGet(t *testing.T) {
	for _, l := range append(lists(), rising(1), rising(2), rising(3), rising(1000)) {
		d := fresh(t, api.MaxRoom)
		r := written(t, d, "r", l...)
		same(t, d, func() {
			holds(t, r, l...)
			for _, key := range bounds(l) {
				if !slices.ContainsFunc(l, func(p api.Pair) bool { return p.Key == key }) {
					misses(t, r, key)
				}
			}
		})
	}
}

// P10.3: keys that are near one that is there are not there.
func TestGetNone(t *testing.T) {
	r := written(t, fresh(t, 1000), "r", pair("\x00\x00", "2"), pair("ab", "1"), gone("cd"), pair("\xff\xff", "3"))
	misses(t, r, "", "a", "b", "aa", "ac", "abc", "ab\x00", "ab ", "AB", "c", "d", "cd\x00", "\x00", "\x00\x00\x00", "\x00\x01", "\xff", "\xff\xff\xff", "\xff\xfe", "1", "ab1", longKey+"m", letters(api.MaxVal))
}

// P10.3: Scan of each two bounds, of as many as are there, fewer, more and none.
func TestScan(t *testing.T) {
	for _, l := range lists() {
		d := fresh(t, api.MaxRoom)
		r := written(t, d, "r", l...)
		// Some of the greatest values would be read too often.
		few := len(runOf(l...)) > 1<<18
		for _, from := range bounds(l) {
			for _, to := range bounds(l) {
				all := within(l, from, to, len(l))
				wanted := append(mosts(len(all)), mosts(len(l))...)
				if few {
					wanted = []int{math.MinInt, 0, 1, math.MaxInt}
				}
				for _, most := range wanted {
					scans(t, r, from, to, most, within(l, from, to, most)...)
				}
			}
		}
	}
}

// P10.3: some bounds that are written out.
func TestScanBounds(t *testing.T) {
	a, b, c := pair("a", "1"), gone("b"), pair("c", "3")
	r := written(t, fresh(t, 1000), "r", a, b, c)
	for _, x := range []struct {
		from, to string
		most     int
		want     []api.Pair
	}{
		{"", "", 9, []api.Pair{a, b, c}},
		{"", "", 3, []api.Pair{a, b, c}},
		{"", "", 2, []api.Pair{a, b}},
		{"", "", 1, []api.Pair{a}},
		{"", "", 0, nil},
		{"", "", -1, nil},
		{"", "", math.MinInt, nil},
		{"", "", math.MaxInt, []api.Pair{a, b, c}},
		{"a", "c", 9, []api.Pair{a, b}},
		{"a\x00", "c\x00", 9, []api.Pair{b, c}},
		{"a\x00", "c\x00", 1, []api.Pair{b}},
		{"", "a", 9, nil},
		{"", "a\x00", 9, []api.Pair{a}},
		{"c", "", 9, []api.Pair{c}},
		{"c\x00", "", 9, nil},
		{"b", "b", 9, nil},
		{"b", "b\x00", 9, []api.Pair{b}},
		{"c", "a", 9, nil},
		{"d", "b", 9, nil},
		{"z", "y", 9, nil},
		{"b", "\x00", 9, nil},
		{"\x00", "\xff", 9, []api.Pair{a, b, c}},
	} {
		scans(t, r, x.from, x.to, x.most, x.want...)
	}
}

// P10.3: many pairs, gone through some at a time, each time from behind the last key on.
func TestScanGoesOn(t *testing.T) {
	l := rising(3000)
	r := written(t, fresh(t, api.MaxRoom), "r", l...)
	for _, n := range []int{1, 2, 7, 999, 2999, 3000, 3001} {
		var all []api.Pair
		for at := ""; len(all) < len(l); at = all[len(all)-1].Key + "\x00" {
			got, e := r.Scan(at, "", n)
			if e != api.OK || len(got) == 0 || len(got) > n {
				t.Fatalf("Scan of %d from %s: %d pairs, %v", n, short(at), len(got), e)
			}
			all = append(all, got...)
		}
		if !slices.Equal(all, l) {
			t.Fatalf("%s, not %s", shown(all...), shown(l...))
		}
	}
}

// P10.3: while the disk stands still a key that is there is told as ErrDown, one that is not as not there; so are scans of some pairs, and of none.
func TestStill(t *testing.T) {
	for _, l := range lists() {
		d := fresh(t, api.MaxRoom)
		r := written(t, d, "r", l...)
		still(t, d, func() {
			for _, from := range bounds(l) {
				i := slices.IndexFunc(l, func(p api.Pair) bool { return p.Key == from })
				if i < 0 {
					misses(t, r, from)
				} else {
					fails(t, r, api.ErrDown, from)
				}
				for _, to := range bounds(l) {
					for _, most := range []int{math.MinInt, -1, 0, 1, 2, math.MaxInt} {
						if len(within(l, from, to, most)) == 0 {
							scans(t, r, from, to, most)
						} else {
							scanFails(t, r, from, to, most, api.ErrDown)
						}
					}
				}
			}
			if r.Len() != len(l) || r.Size() != len(runOf(l...)) {
				t.Fatalf("Len %d, Size %d", r.Len(), r.Size())
			}
		})
		holds(t, r, l...)
	}
}

// P10.3: what is told where something else stands in a file's place, and that it is told as ever once the file is there again.
func TestElse(t *testing.T) {
	a, b, c := pair("a", "1"), gone("b"), pair("c", "345")
	all := runOf(a, b, c)
	d := laid(t, "r", all)
	r := opened(t, d, "r")
	fine(t, d.Rename("r", "s"))
	fails(t, r, api.ErrNone, "a", "b", "c")
	misses(t, r, "d", "")
	scanFails(t, r, "", "", 1, api.ErrNone)
	scans(t, r, "d", "", 1)
	for _, other := range []string{
		"", "x", letters(200), runOf(), runOf(pair("a", "2"), pair("b", ""), pair("c", "346")), runOf(b, c), framed("") + all, all[1:],
		runOf(pair("b", "1"), gone("c"), pair("d", "345")), runOf(gone("aa"), gone("bc"), pair("c", "34")), framed("12345678", "123", "123", "123456"),
	} {
		fine(t, d.Append("r", other))
		fails(t, r, api.ErrBad, "a", "c")
		misses(t, r, "", "d", "aa")
		scanFails(t, r, "", "", 1, api.ErrBad)
		scanFails(t, r, "c", "", 9, api.ErrBad)
		scans(t, r, "d", "", 9)
		fine(t, d.Remove("r"))
	}
	fine(t, d.Rename("s", "r"))
	holds(t, r, a, b, c)
}

// P10.3: a pair whose frame is what it was is told, whatever else of the file is another.
func TestPart(t *testing.T) {
	a, b, c := pair("a", "1"), gone("b"), pair("c", "345")
	all := runOf(a, b, c)
	for n := range len(all) + 1 {
		d := laid(t, "r", all)
		r := opened(t, d, "r")
		fine(t, d.Truncate("r", n))
		for i, p := range []api.Pair{a, b, c} {
			if n >= len(runOf([]api.Pair{a, b, c}[:i+1]...)) {
				gets(t, r, p)
			} else {
				fails(t, r, api.ErrBad, p.Key)
			}
		}
		fine(t, d.Append("r", all[n:]+"more"))
		holds(t, r, a, b, c)
	}
	d := laid(t, "r", all)
	r := opened(t, d, "r")
	other := framed("12345678", textOf(pair("x", "2")), textOf(b), "123456")
	fine(t, d.Remove("r"), d.Append("r", other))
	gets(t, r, b)
	fails(t, r, api.ErrBad, "a", "c")
	scans(t, r, "b", "c", 9, b)
	scans(t, r, "b", "", 1, b)
	scanFails(t, r, "b", "", 2, api.ErrBad)
}

// P10.3: of several errors the first one is told, and none that is behind what is wanted.
func TestScanFirst(t *testing.T) {
	l := rising(6)
	for bad := range l {
		d := fresh(t, 5000)
		r := written(t, d, "r", l...)
		fine(t, d.Flip("r", len(runOf(l[:bad]...)), 0))
		for i := range l {
			for most := range len(l) + 2 {
				if want := l[i:min(i+most, len(l))]; bad < i || bad >= i+most {
					scans(t, r, l[i].Key, "", most, want...)
				} else {
					scanFails(t, r, l[i].Key, "", most, api.ErrBad)
				}
				if want := within(l, "", l[i].Key, most); bad >= len(want) {
					scans(t, r, "", l[i].Key, most, want...)
				} else {
					scanFails(t, r, "", l[i].Key, most, api.ErrBad)
				}
			}
		}
		still(t, d, func() { scanFails(t, r, "", "", 9, api.ErrDown) })
	}
}

// other is a text of as many bytes with the same sum: those bits are turned that the sum's polynomial has, the highest power first.
func other(s string) string {
	b := []byte(s)
	for i, by := range []byte{0x41, 0x06, 0x71, 0xdb, 0x01} {
		b[i] ^= by
	}
	return string(b)
}

// P10.3: a frame that is whole, of as many bytes and with the same sums, but with another value, is not what it was.
func TestSameSum(t *testing.T) {
	was, is := pair("a", "five bytes"), pair("a", other("five bytes"))
	one, two := runOf(was, pair("b", "2")), runOf(is, pair("b", "2"))
	if was == is || one[20:32] != two[20:32] {
		t.Fatalf("the two frames don't have the same head: %q %q", one, two)
	}
	d := laid(t, "r", one)
	r := opened(t, d, "r")
	holds(t, r, was, pair("b", "2"))
	fine(t, d.Remove("r"), d.Append("r", two))
	fails(t, r, api.ErrBad, "a")
	gets(t, r, pair("b", "2"))
	scanFails(t, r, "", "", 9, api.ErrBad)
	holds(t, opened(t, d, "r"), is, pair("b", "2"))
}

// P10.3, R5: what is done to a list that was answered is not seen in the run, nor in another answer.
func TestScanNew(t *testing.T) {
	l := []api.Pair{pair("a", "1"), gone("b"), pair("c", "3"), pair("d", "4")}
	r := written(t, fresh(t, 1000), "r", l...)
	for n := range len(l) + 1 {
		one, _ := r.Scan("", "", n)
		two, _ := r.Scan("", "", n)
		for i := range one {
			one[i] = pair("other", "one")
		}
		_ = append(one[:0], pair("z", "z"))
		_ = append(one, pair("more", "of it"), pair("and", "more"))
		if !slices.Equal(two, l[:n]) {
			t.Fatalf("%s, not %s", shown(two...), shown(l[:n]...))
		}
		holds(t, r, l...)
	}
}

// P10.2, P10.3: two runs on one disk, and two of one file, each of which has its own.
func TestTwo(t *testing.T) {
	d := fresh(t, 5000)
	one := []api.Pair{pair("a", "1"), gone("b")}
	two := []api.Pair{gone("a"), pair("b", "2"), pair("c", "3")}
	r, s := written(t, d, "r", one...), written(t, d, "s", two...)
	again := opened(t, d, "r")
	holds(t, r, one...)
	holds(t, s, two...)
	holds(t, again, one...)
	fine(t, d.Remove("s"))
	holds(t, r, one...)
	fails(t, s, api.ErrNone, "a", "b", "c")
	fine(t, d.Sync(), d.Flip("r", 20, 0))
	for _, x := range []*run.Run{r, again} {
		fails(t, x, api.ErrBad, "a")
		gets(t, x, gone("b"))
	}
	fine(t, d.Rename("r", "s"))
	fails(t, r, api.ErrNone, "a", "b")
	fails(t, s, api.ErrBad, "a", "b", "c")
}

// P10.2, P10.3: a run of one disk is not asked of another one.
func TestTwoDisks(t *testing.T) {
	d, e := fresh(t, 1000), fresh(t, 1000)
	r, s := written(t, d, "r", pair("a", "1")), written(t, e, "r", pair("a", "2"))
	for _, x := range []*disk.Disk{d, e} {
		still(t, x, func() {
			if x == d {
				fails(t, r, api.ErrDown, "a")
				holds(t, s, pair("a", "2"))
			} else {
				fails(t, s, api.ErrDown, "a")
				holds(t, r, pair("a", "1"))
			}
		})
	}
}
