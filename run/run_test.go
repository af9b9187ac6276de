package run_test

import (
	"encoding/binary"
	"fmt"
	"hash/crc32"
	"math"
	"math/rand"
	"slices"
	"strings"
	"testing"

	"fascicle/api"
	"fascicle/disk"
	"fascicle/run"
)

// pair is a key with a value.
func pair(key, value string) api.Pair { return api.Pair{Key: key, Value: value} }

// gone is a key of which there is none any more.
func gone(key string) api.Pair { return api.Pair{Key: key, Gone: true} }

// letters is a text of n bytes, of all kinds.
func letters(n int) string {
	b := make([]byte, n)
	rand.New(rand.NewSource(int64(n))).Read(b)
	return string(b)
}

// short is a text as it is told where a test failed.
func short(s string) string {
	if len(s) > 20 {
		return fmt.Sprintf("%q and %d bytes more", s[:20], len(s)-20)
	}
	return fmt.Sprintf("%q", s)
}

// shown has pairs as they are told where a test failed.
func shown(l ...api.Pair) string {
	var b strings.Builder
	for _, p := range l[:min(len(l), 30)] {
		fmt.Fprintf(&b, "%s %s %v; ", short(p.Key), short(p.Value), p.Gone)
	}
	return fmt.Sprintf("%d pairs: %s", len(l), b.String())
}

// fine fails the test unless all of these are OK.
func fine(t *testing.T, errs ...api.Errno) {
	t.Helper()
	tells(t, api.OK, errs...)
}

// tells fails the test unless all of these are the one that is wanted.
func tells(t *testing.T, want api.Errno, errs ...api.Errno) {
	t.Helper()
	for i, e := range errs {
		if e != want {
			t.Fatalf("call %d tells %v, not %v", i, e, want)
		}
	}
}

// fresh is a new disk with room for n bytes.
func fresh(t *testing.T, n int) *disk.Disk {
	t.Helper()
	d, e := disk.New(n)
	if d == nil || e != api.OK {
		t.Fatalf("New(%d): %v %v", n, d, e)
	}
	return d
}

// laid is a disk on which the file has these bytes, for good.
func laid(t *testing.T, name, text string) *disk.Disk {
	t.Helper()
	d := fresh(t, api.MaxRoom)
	fine(t, d.Append(name, text), d.Sync())
	return d
}

// framed has the frames of texts as layer 7's words say, so that what stands on a disk is not told by what was to be tested.
func framed(l ...string) string {
	var b []byte
	for _, s := range l {
		count := binary.LittleEndian.AppendUint32(nil, uint32(len(s)))
		b = append(b, count...)
		b = binary.LittleEndian.AppendUint32(b, crc32.ChecksumIEEE(count))
		b = binary.LittleEndian.AppendUint32(b, crc32.ChecksumIEEE([]byte(s)))
		b = append(b, s...)
	}
	return string(b)
}

// counted is the text that tells how many pairs there are.
func counted(n int) string { return string(binary.LittleEndian.AppendUint64(nil, uint64(n))) }

// text is that of a pair, whether it may be or not.
func text(mark byte, count int, both string) string {
	return string(binary.LittleEndian.AppendUint16([]byte{mark}, uint16(count))) + both
}

// textOf is the text of a pair.
func textOf(p api.Pair) string {
	if p.Gone {
		return text(1, len(p.Key), p.Key+p.Value)
	}
	return text(0, len(p.Key), p.Key+p.Value)
}

// runOf has the bytes of a run of these pairs, as the chapter's words say, whether it is one or not.
func runOf(l ...api.Pair) string {
	all := []string{counted(len(l))}
	for _, p := range l {
		all = append(all, textOf(p))
	}
	return framed(all...)
}

// seen is all that a disk that goes on has: its files, told as name:bytes, and how many calls are loose.
func seen(t *testing.T, d *disk.Disk) string {
	t.Helper()
	var b strings.Builder
	for _, name := range d.Names() {
		s, e := d.Read(name, 0, math.MaxInt)
		if e != api.OK {
			t.Fatalf("Read of %s: %v", name, e)
		}
		fmt.Fprintf(&b, "%s:%q ", name, s)
	}
	return fmt.Sprintf("%sloose %d", b.String(), d.Loose())
}

// same fails the test unless the calls leave the disk as it was, and burn no fuse.
func same(t *testing.T, d *disk.Disk, calls func()) {
	t.Helper()
	before := seen(t, d)
	burns(t, d, 0, calls)
	if after := seen(t, d); after != before {
		t.Fatalf("the disk has %s, not %s", short(after), short(before))
	}
}

// burns fails the test unless the calls burn just n calls of a fuse: with n of them all is OK, and the disk goes on, up to the next call.
func burns(t *testing.T, d *disk.Disk, n int, calls func()) {
	t.Helper()
	fine(t, d.Fuse(n))
	calls()
	tells(t, api.ErrDown, d.Sync())
	fine(t, d.Fuse(-1))
}

// still does the calls while the disk stands still.
func still(t *testing.T, d *disk.Disk, calls func()) {
	t.Helper()
	fine(t, d.Fuse(0))
	tells(t, api.ErrDown, d.Sync())
	calls()
	tells(t, api.ErrDown, d.Sync())
	fine(t, d.Fuse(-1))
}

// file fails the test unless the file has these bytes now.
func file(t *testing.T, d *disk.Disk, name, want string) {
	t.Helper()
	if s, e := d.Read(name, 0, math.MaxInt); s != want || e != api.OK {
		t.Fatalf("%s: %s %v, not %s", name, short(s), e, short(want))
	}
}

// forGood fails the test unless nothing is loose, and a crash leaves the file these bytes.
func forGood(t *testing.T, d *disk.Disk, name, want string) {
	t.Helper()
	if d.Loose() != 0 {
		t.Fatalf("loose %d", d.Loose())
	}
	fine(t, d.Crash(0, 0))
	file(t, d, name, want)
}

// missing fails the test unless the file is not there.
func missing(t *testing.T, d *disk.Disk, name string) {
	t.Helper()
	if n, e := d.Size(name); n != 0 || e != api.ErrNone {
		t.Fatalf("%s: %d bytes %v, not ErrNone", name, n, e)
	}
}

// opened is the run of that file.
func opened(t *testing.T, d *disk.Disk, name string) *run.Run {
	t.Helper()
	r, e := run.Open(d, name)
	if r == nil || e != api.OK {
		t.Fatalf("Open: %v %v", r, e)
	}
	return r
}

// written is a run of these pairs, in that file.
func written(t *testing.T, d *disk.Disk, name string, l ...api.Pair) *run.Run {
	t.Helper()
	fine(t, run.Write(d, name, l))
	return opened(t, d, name)
}

// refused fails the test unless Open tells that error, and nothing else.
func refused(t *testing.T, d *disk.Disk, name string, want api.Errno) {
	t.Helper()
	if r, e := run.Open(d, name); r != nil || e != want {
		t.Fatalf("Open of %q: %v, %v, not %v", name, r, e, want)
	}
}

// gets fails the test unless Get answers this pair, by its key.
func gets(t *testing.T, r *run.Run, want api.Pair) {
	t.Helper()
	if p, is, e := r.Get(want.Key); p != want || !is || e != api.OK {
		t.Fatalf("Get of %s: %s %v %v, not %s", short(want.Key), shown(p), is, e, shown(want))
	}
}

// misses fails the test unless Get answers that none of these keys has a pair.
func misses(t *testing.T, r *run.Run, keys ...string) {
	t.Helper()
	fails(t, r, api.OK, keys...)
}

// fails fails the test unless Get answers no pair of each of these keys, and that error.
func fails(t *testing.T, r *run.Run, want api.Errno, keys ...string) {
	t.Helper()
	for _, key := range keys {
		if p, is, e := r.Get(key); p != (api.Pair{}) || is || e != want {
			t.Fatalf("Get of %s: %s %v %v, not none and %v", short(key), shown(p), is, e, want)
		}
	}
}

// scans fails the test unless Scan answers these pairs.
func scans(t *testing.T, r *run.Run, from, to string, most int, want ...api.Pair) {
	t.Helper()
	if l, e := r.Scan(from, to, most); !slices.Equal(l, want) || e != api.OK {
		t.Fatalf("Scan from %s to %s, %d: %s %v, not %s", short(from), short(to), most, shown(l...), e, shown(want...))
	}
}

// scanFails fails the test unless Scan answers no pairs, and that error.
func scanFails(t *testing.T, r *run.Run, from, to string, most int, want api.Errno) {
	t.Helper()
	if l, e := r.Scan(from, to, most); len(l) != 0 || e != want {
		t.Fatalf("Scan from %s to %s, %d: %s %v, not %v", short(from), short(to), most, shown(l...), e, want)
	}
}

// holds fails the test unless r has just these pairs, which stand in order.
func holds(t *testing.T, r *run.Run, want ...api.Pair) {
	t.Helper()
	if r.Len() != len(want) || r.Size() != len(runOf(want...)) {
		t.Fatalf("Len %d, Size %d, not %d, %d", r.Len(), r.Size(), len(want), len(runOf(want...)))
	}
	for _, p := range want {
		gets(t, r, p)
	}
	scans(t, r, "", "", math.MaxInt, want...)
}

// longKey is a key of as many bytes as there may be.
var longKey = strings.Repeat("m", api.MaxKey)

// lists has rows of pairs that may be written: of none, one, several, gone ones, keys that are beginnings of one another, bytes 0 and 255, and some at the limits.
func lists() [][]api.Pair {
	return [][]api.Pair{
		nil,
		{},
		{pair("a", "1")},
		{pair("a", "")},
		{gone("a")},
		{pair("\x00", "\x00")},
		{pair("\xff", "\xff")},
		{gone("a"), pair("b", "")},
		{pair("a", "1"), gone("b"), gone("c"), pair("d", "4"), gone("e")},
		{pair("a", "1"), gone("aa"), pair("aaa", "3"), pair("aaaa", "4"), pair("ab", "5"), pair("b", "6")},
		{pair("a", "1"), pair("a\x00", "2"), pair("a\x00\x00", "3"), pair("a\x00\xff", "4"), pair("a\x01", "5"), pair("a\xff", "6"), pair("a\xff\x00", "7"), pair("b", "8")},
		{pair("\x00", "1"), pair("\x00\x00", "2"), gone("\x00\xff"), pair("\x7f", "x"), pair("\x80", "y"), pair("\xff", "4"), gone("\xff\x00"), pair("\xff\xff", "6")},
		{pair("a", letters(255)), pair(letters(256)[:1]+"z", letters(256)), pair("\xff", letters(65537))},
		{pair("l", ""), pair("m", ""), gone(longKey[2:] + "l"), pair(longKey[1:], "2"), pair(longKey, "1"), gone(longKey[1:] + "n"), pair("n", longKey+longKey)},
		{pair(longKey, letters(api.MaxVal)), pair("z", letters(api.MaxVal-1))},
	}
}

// rising is n pairs whose keys rise, some of them gone.
func rising(n int) []api.Pair {
	var l []api.Pair
	for i := range n {
		key := fmt.Sprintf("%07d", i)
		if i%7 == 3 {
			l = append(l, gone(key))
		} else {
			l = append(l, pair(key, letters(i%40)))
		}
	}
	return l
}

// R3, P10.1 to P10.3: what no run answers, whatever it is given, and what no disk does.
func TestNil(t *testing.T) {
	var r *run.Run
	fails(t, r, api.ErrNil, "", "a", "\xff", longKey, longKey+"m")
	for _, most := range []int{math.MinInt, -1, 0, 1, math.MaxInt} {
		scanFails(t, r, "", "", most, api.ErrNil)
		scanFails(t, r, "a", "b", most, api.ErrNil)
		scanFails(t, r, "b", "a", most, api.ErrNil)
	}
	if r.Len() != 0 || r.Size() != 0 {
		t.Errorf("no run: Len %d, Size %d", r.Len(), r.Size())
	}
	for _, name := range append(wrongNames(), "r") {
		for _, l := range append(lists(), []api.Pair{{}}, []api.Pair{pair("b", ""), pair("a", "")}) {
			tells(t, api.ErrNil, run.Write(nil, name, l))
		}
		refused(t, nil, name, api.ErrNil)
	}
}

// The chapter's examples.
func TestExamples(t *testing.T) {
	d := fresh(t, 1000)
	a, b := pair("a", "1"), gone("b")
	fine(t, run.Write(d, "r", []api.Pair{a, b}))
	r := opened(t, d, "r")
	gets(t, r, b)
	scans(t, r, "", "", 9, a, b)
	tells(t, api.ErrKeys, run.Write(d, "s", []api.Pair{b, a}))
	tells(t, api.ErrArg, run.Write(d, "s", []api.Pair{pair("", "1")}))
	tells(t, api.ErrHave, run.Write(d, "r", []api.Pair{pair("c", "3")}))
	missing(t, d, "s")
}
