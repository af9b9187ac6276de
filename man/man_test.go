package man_test

import (
	"encoding/binary"
	"fmt"
	"hash/crc32"
	"math"
	"math/rand"
	"slices"
	"strings"
	"testing"

	"fascicle/api"
	"fascicle/disk"
	"fascicle/man"
)

const most = 1 << 40 // the greatest Next

// of is a man.
func of(wal, next uint64, runs ...uint64) api.Man { return api.Man{Wal: wal, Runs: runs, Next: next} }

// equal tells whether both are one man.
func equal(m, n api.Man) bool {
	return m.Wal == n.Wal && m.Next == n.Next && slices.Equal(m.Runs, n.Runs)
}

// rising is n numbers from the first one on.
func rising(first uint64, n int) []uint64 {
	var l []uint64
	for i := range n {
		l = append(l, first+uint64(i))
	}
	return l
}

// falling is the same numbers, the greatest one first.
func falling(first uint64, n int) []uint64 {
	l := rising(first, n)
	slices.Reverse(l)
	return l
}

// few has mans of few bytes that may be.
func few() []api.Man {
	return []api.Man{
		of(1, 2), of(1, 3, 2), of(2, 3, 1), of(5, most), of(most-1, most), of(1, most, most-1), of(most-1, most, most-2, 1),
		of(3, 9, 8, 1, 4), of(0x102030405, 0xff03040506, 0x807060504, 0xff02ffffff),
	}
}

// mans has mans of all kinds that may be.
func mans() []api.Man {
	return append(few(),
		of(1, 1000, falling(2, 100)...), of(255, 256, rising(1, 254)...), of(255, 256, falling(1, 254)...),
		of(257, 258, rising(1, api.MaxRuns)...), of(1, most, rising(most-api.MaxRuns, api.MaxRuns)...), of(7, most, falling(8, api.MaxRuns)...),
	)
}

// letters is a text of n bytes, of all kinds.
func letters(n int) string {
	b := make([]byte, n)
	rand.New(rand.NewSource(int64(n))).Read(b)
	return string(b)
}

// short is a text as it is told where a test failed.
func short(s string) string {
	if len(s) > 20 {
		return fmt.Sprintf("%q and %d bytes more", s[:20], len(s)-20)
	}
	return fmt.Sprintf("%q", s)
}

// framed has the frames of texts as layer 7's words say, so that what stands on a disk is not told by what was to be tested.
func framed(l ...string) string {
	var b []byte
	for _, s := range l {
		count := binary.LittleEndian.AppendUint32(nil, uint32(len(s)))
		b = append(b, count...)
		b = binary.LittleEndian.AppendUint32(b, crc32.ChecksumIEEE(count))
		b = binary.LittleEndian.AppendUint32(b, crc32.ChecksumIEEE([]byte(s)))
		b = append(b, s...)
	}
	return string(b)
}

// text has numbers, in 8 bytes each.
func text(l ...uint64) string {
	var b []byte
	for _, v := range l {
		b = binary.LittleEndian.AppendUint64(b, v)
	}
	return string(b)
}

// textOf is the text of a man, whether it may be or not.
func textOf(m api.Man) string {
	return text(m.Wal, m.Next, uint64(len(m.Runs))) + text(m.Runs...)
}

// bytesOf has the bytes of a man as the chapter's words say, whether it may be or not.
func bytesOf(m api.Man) string { return framed(textOf(m)) }

// fine fails the test unless all of these are OK.
func fine(t *testing.T, errs ...api.Errno) {
	t.Helper()
	tells(t, api.OK, errs...)
}

// tells fails the test unless all of these are the one that is wanted.
func tells(t *testing.T, want api.Errno, errs ...api.Errno) {
	t.Helper()
	for i, e := range errs {
		if e != want {
			t.Fatalf("call %d tells %v, not %v", i, e, want)
		}
	}
}

// fresh is a new disk with room for n bytes.
func fresh(t *testing.T, n int) *disk.Disk {
	t.Helper()
	d, e := disk.New(n)
	if d == nil || e != api.OK {
		t.Fatalf("New(%d): %v %v", n, d, e)
	}
	return d
}

// laid is a disk on which the file has these bytes, for good.
func laid(t *testing.T, name, text string) *disk.Disk {
	t.Helper()
	d := fresh(t, api.MaxRoom)
	fine(t, d.Append(name, text), d.Sync())
	return d
}

// seen is all that a disk that goes on has: its files, told as name:bytes, and how many calls are loose.
func seen(t *testing.T, d *disk.Disk) string {
	t.Helper()
	var b strings.Builder
	for _, name := range d.Names() {
		s, e := d.Read(name, 0, math.MaxInt)
		if e != api.OK {
			t.Fatalf("Read of %s: %v", name, e)
		}
		fmt.Fprintf(&b, "%s:%q ", name, s)
	}
	return fmt.Sprintf("%sloose %d", b.String(), d.Loose())
}

// same fails the test unless the calls leave the disk as it was, and burn no fuse.
func same(t *testing.T, d *disk.Disk, calls func()) {
	t.Helper()
	before := seen(t, d)
	burns(t, d, 0, calls)
	if after := seen(t, d); after != before {
		t.Fatalf("the disk has %s, not %s", short(after), short(before))
	}
}

// burns fails the test unless the calls burn just n calls of a fuse: with n of them all is OK, and the disk goes on, up to the next call.
func burns(t *testing.T, d *disk.Disk, n int, calls func()) {
	t.Helper()
	fine(t, d.Fuse(n))
	calls()
	tells(t, api.ErrDown, d.Sync())
	fine(t, d.Fuse(-1))
}

// still does the calls while the disk stands still.
func still(t *testing.T, d *disk.Disk, calls func()) {
	t.Helper()
	fine(t, d.Fuse(0))
	tells(t, api.ErrDown, d.Sync())
	calls()
	tells(t, api.ErrDown, d.Sync())
	fine(t, d.Fuse(-1))
}

// file fails the test unless the file has these bytes now.
func file(t *testing.T, d *disk.Disk, name, want string) {
	t.Helper()
	if s, e := d.Read(name, 0, math.MaxInt); s != want || e != api.OK {
		t.Fatalf("%s: %s %v, not %s", name, short(s), e, short(want))
	}
}

// missing fails the test unless the file is not there.
func missing(t *testing.T, d *disk.Disk, name string) {
	t.Helper()
	if n, e := d.Size(name); n != 0 || e != api.ErrNone {
		t.Fatalf("%s: %d bytes %v, not ErrNone", name, n, e)
	}
}

// loads fails the test unless Load answers this man.
func loads(t *testing.T, d *disk.Disk, name string, want api.Man) {
	t.Helper()
	if m, e := man.Load(d, name); !equal(m, want) || e != api.OK {
		t.Fatalf("Load of %q: %v %v, not %v", name, m, e, want)
	}
}

// refused fails the test unless Load tells that error, and nothing else.
func refused(t *testing.T, d *disk.Disk, name string, want api.Errno) {
	t.Helper()
	if m, e := man.Load(d, name); !equal(m, api.Man{}) || e != want {
		t.Fatalf("Load of %q: %v %v, not %v", name, m, e, want)
	}
}

// forGood fails the test unless nothing is loose, the file of the name has this man's bytes, also behind a crash, and none stands beside.
func forGood(t *testing.T, d *disk.Disk, name string, want api.Man) {
	t.Helper()
	if d.Loose() != 0 {
		t.Fatalf("loose %d", d.Loose())
	}
	fine(t, d.Crash(0, 0))
	file(t, d, name, bytesOf(want))
	missing(t, d, name+".new")
	loads(t, d, name, want)
}

// The chapter's first example: what was saved is loaded.
func TestExampleSave(t *testing.T) {
	d := fresh(t, 1000)
	fine(t, man.Save(d, "m", of(1, 2)))
	loads(t, d, "m", of(1, 2))
}

// The chapter's second example: a disk that stands still amid a Save.
func TestExampleFuse(t *testing.T) {
	d := fresh(t, 1000)
	fine(t, man.Save(d, "m", of(1, 2)), d.Fuse(2))
	tells(t, api.ErrDown, man.Save(d, "m", of(3, 4)))
	fine(t, d.Crash(0, 0))
	loads(t, d, "m", of(1, 2))
}

// P11.2: no disk: ErrNil, ahead of all else.
func TestNoDisk(t *testing.T) {
	for _, name := range append(wrongNames(), "m") {
		tells(t, api.ErrNil, man.Save(nil, name, of(1, 2)), man.Save(nil, name, api.Man{}), man.Save(nil, name, of(1, 2, rising(1, 1000)...)))
		refused(t, nil, name, api.ErrNil)
	}
}
