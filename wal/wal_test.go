package wal_test

import (
	"encoding/binary"
	"fmt"
	"hash/crc32"
	"math"
	"math/rand"
	"slices"
	"strings"
	"testing"

	"fascicle/api"
	"fascicle/disk"
	"fascicle/wal"
)

const room = 1 << 16 // of a disk for which it does not matter

// fresh is a new disk with room for n bytes.
func fresh(t *testing.T, n int) *disk.Disk {
	t.Helper()
	d, e := disk.New(n)
	if d == nil || e != api.OK {
		t.Fatalf("New(%d): %v %v", n, d, e)
	}
	return d
}

// fine fails the test unless all of these are OK.
func fine(t *testing.T, errs ...api.Errno) {
	t.Helper()
	tells(t, api.OK, errs...)
}

// tells fails the test unless all of these are the one that is wanted.
func tells(t *testing.T, want api.Errno, errs ...api.Errno) {
	t.Helper()
	for i, e := range errs {
		if e != want {
			t.Fatalf("call %d tells %v, not %v", i, e, want)
		}
	}
}

// framed has the frames of texts as layer 7's words say, so that what stands on a disk is not told by what was to be tested.
func framed(l ...string) string {
	var b []byte
	for _, s := range l {
		count := binary.LittleEndian.AppendUint32(nil, uint32(len(s)))
		b = append(b, count...)
		b = binary.LittleEndian.AppendUint32(b, crc32.ChecksumIEEE(count))
		b = binary.LittleEndian.AppendUint32(b, crc32.ChecksumIEEE([]byte(s)))
		b = append(b, s...)
	}
	return string(b)
}

// letters is a text of n bytes, of all kinds.
func letters(n int) string {
	b := make([]byte, n)
	rand.New(rand.NewSource(int64(n))).Read(b)
	return string(b)
}

// seen is all that a disk that goes on has: its files, told as name:bytes, and how many calls are loose.
func seen(t *testing.T, d *disk.Disk) string {
	t.Helper()
	var l []string
	for _, name := range d.Names() {
		s, e := d.Read(name, 0, math.MaxInt)
		if e != api.OK {
			t.Fatalf("Read of %s: %v", name, e)
		}
		l = append(l, fmt.Sprintf("%s:%q", name, s))
	}
	return fmt.Sprintf("%s loose %d", strings.Join(l, " "), d.Loose())
}

// file fails the test unless the file has these bytes now.
func file(t *testing.T, d *disk.Disk, name, want string) {
	t.Helper()
	if s, e := d.Read(name, 0, math.MaxInt); s != want || e != api.OK {
		t.Fatalf("%s: %d bytes %v, not %d", name, len(s), e, len(want))
	}
}

// forGood fails the test unless nothing is loose, and a crash leaves the file these bytes.
func forGood(t *testing.T, d *disk.Disk, name, want string) {
	t.Helper()
	if d.Loose() != 0 {
		t.Fatalf("loose %d", d.Loose())
	}
	fine(t, d.Crash(0, 0))
	file(t, d, name, want)
}

// missing fails the test unless the file is not there.
func missing(t *testing.T, d *disk.Disk, name string) {
	t.Helper()
	if n, e := d.Size(name); n != 0 || e != api.ErrNone {
		t.Fatalf("%s: %d bytes %v, not ErrNone", name, n, e)
	}
}

// has fails the test unless w has as many records and bytes as these, and is not down.
func has(t *testing.T, w *wal.Wal, l ...string) {
	t.Helper()
	hasDown(t, w, api.OK, l...)
}

// hasDown fails the test unless w has as many records and bytes as these, and is down by that error.
func hasDown(t *testing.T, w *wal.Wal, e api.Errno, l ...string) {
	t.Helper()
	if w.Len() != len(l) || w.Size() != len(framed(l...)) || w.Fault() != e {
		t.Fatalf("Len %d, Size %d, Fault %v, not %d, %d, %v", w.Len(), w.Size(), w.Fault(), len(l), len(framed(l...)), e)
	}
}

// opened is a wal of the file, which must have just these records.
func opened(t *testing.T, d *disk.Disk, name string, l ...string) *wal.Wal {
	t.Helper()
	w, got, e := wal.Open(d, name)
	if w == nil || e != api.OK {
		t.Fatalf("Open: %v %v", w, e)
	}
	if !slices.Equal(got, l) {
		t.Fatalf("Open: records %q, not %q", got, l)
	}
	has(t, w, l...)
	return w
}

// refused fails the test unless Open tells that error, and nothing else.
func refused(t *testing.T, d *disk.Disk, name string, want api.Errno) {
	t.Helper()
	if w, l, e := wal.Open(d, name); w != nil || len(l) != 0 || e != want {
		t.Fatalf("Open of %q: %v, %q, %v, not %v", name, w, l, e, want)
	}
}

// laid is a disk on which the file has these bytes, for good.
func laid(t *testing.T, name, text string) *disk.Disk {
	t.Helper()
	d := fresh(t, api.MaxRoom)
	fine(t, d.Append(name, text), d.Sync())
	return d
}

// burns fails the test unless the calls burn just n calls of a fuse: with n of them all is OK, and the disk goes on, up to the next call.
func burns(t *testing.T, d *disk.Disk, n int, calls func()) {
	t.Helper()
	fine(t, d.Fuse(n))
	calls()
	tells(t, api.ErrDown, d.Sync())
	fine(t, d.Fuse(-1))
}

// stuck fails the test unless w is down by ErrDown, has these records, and each call that changes tells that and does nothing, though the disk goes on.
func stuck(t *testing.T, d *disk.Disk, w *wal.Wal, l ...string) {
	t.Helper()
	ask := func() {
		t.Helper()
		tells(t, api.ErrDown, w.Append(), w.Append("x"), w.Append("x", "", "y"), w.Append(tooLong), w.Append(letters(room+1)), w.Reset())
		hasDown(t, w, api.ErrDown, l...)
	}
	ask()
	fine(t, d.Fuse(-1))
	before := seen(t, d)
	burns(t, d, 0, ask)
	ask()
	if after := seen(t, d); after != before {
		t.Fatalf("a wal that is down did something: %s, not %s", after, before)
	}
}

var tooLong = strings.Repeat("a", api.MaxFrame+1)

// lists has lists of records: of none, of one, of several, of empty ones at each place.
func lists() [][]string {
	return [][]string{
		nil, {""}, {"a"}, {"\x00"}, {"\xff"}, {"", ""}, {"a", "b"}, {"a", "a"}, {"", "a"}, {"a", ""}, {"a", "", "b"}, {"", "a", "", "", "b", ""},
		{framed("a"), framed(""), framed("a", "b")[:14]}, {letters(7), letters(8), letters(300)}, slices.Repeat([]string{"", "x"}, 30),
	}
}

// R3, P8.1 to P8.3: what no wal answers, whatever it is given.
func TestNil(t *testing.T) {
	var w *wal.Wal
	tells(t, api.ErrNil, w.Append(), w.Append(""), w.Append("a", "b"), w.Append(tooLong), w.Append("a", tooLong), w.Reset(), w.Fault())
	if w.Len() != 0 || w.Size() != 0 {
		t.Errorf("no wal: Len %d, Size %d", w.Len(), w.Size())
	}
}

// The chapter's examples.
func TestExamples(t *testing.T) {
	d := fresh(t, room)
	w := opened(t, d, "w")
	fine(t, w.Append("a", "b"))
	opened(t, d, "w", "a", "b")

	for _, x := range []struct {
		keep, torn int
		want       []string
	}{{1, 0, []string{"a", "b"}}, {0, 5, []string{"a"}}, {0, 0, []string{"a"}}, {0, 13, []string{"a", "b"}}, {0, 12, []string{"a"}}} {
		d := fresh(t, room)
		w := opened(t, d, "w")
		fine(t, w.Append("a"), d.Fuse(1))
		tells(t, api.ErrDown, w.Append("b"))
		fine(t, d.Crash(x.keep, x.torn))
		opened(t, d, "w", x.want...)
		forGood(t, d, "w", framed(x.want...))
	}
}
