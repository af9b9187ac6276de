package kv_test

import (
	"encoding/binary"
	"fmt"
	"hash/crc32"
	"maps"
	"math"
	"math/rand"
	"slices"
	"strings"
	"testing"

	"fascicle/api"
	"fascicle/disk"
	"fascicle/kv"
)

const (
	room    = 100000  // enough for most disks
	mostMan = 1 << 40 // the greatest Next of a man
)

// pair is a key with a value.
func pair(key, value string) api.Pair { return api.Pair{Key: key, Value: value} }

// gone is a key of which there is none any more.
func gone(key string) api.Pair { return api.Pair{Key: key, Gone: true} }

// letters is a text of n bytes, of all kinds.
func letters(n int) string {
	b := make([]byte, n)
	rand.New(rand.NewSource(int64(n))).Read(b)
	return string(b)
}

// short is a text as it is told where a test failed.
func short(s string) string {
	if len(s) > 20 {
		return fmt.Sprintf("%q and %d bytes more", s[:20], len(s)-20)
	}
	return fmt.Sprintf("%q", s)
}

// shown has pairs as they are told where a test failed.
func shown(l ...api.Pair) string {
	var b strings.Builder
	for _, p := range l[:min(len(l), 30)] {
		fmt.Fprintf(&b, "%s %s %v; ", short(p.Key), short(p.Value), p.Gone)
	}
	return fmt.Sprintf("%d pairs: %s", len(l), b.String())
}

// framed has the frames of texts as layer 7's words say, so that what stands on a disk is not told by what was to be tested.
func framed(l ...string) string {
	var b []byte
	for _, s := range l {
		count := binary.LittleEndian.AppendUint32(nil, uint32(len(s)))
		b = append(b, count...)
		b = binary.LittleEndian.AppendUint32(b, crc32.ChecksumIEEE(count))
		b = binary.LittleEndian.AppendUint32(b, crc32.ChecksumIEEE([]byte(s)))
		b = append(b, s...)
	}
	return string(b)
}

// number is v in n bytes.
func number(v, n int) string {
	return string(binary.LittleEndian.AppendUint64(nil, uint64(v))[:n])
}

// marked is 1 of a pair that is gone, else 0.
func marked(p api.Pair) int {
	if p.Gone {
		return 1
	}
	return 0
}

// textOf is a pair in a batch, whether it may be or not.
func textOf(p api.Pair) string {
	return number(marked(p), 1) + number(len(p.Key), 2) + number(len(p.Value), 3) + p.Key + p.Value
}

// batchOf is the batch of these pairs as the chapter's words say, whether it is one or not.
func batchOf(l ...api.Pair) string {
	s := number(len(l), 2)
	for _, p := range l {
		s += textOf(p)
	}
	return s
}

// runOf has the bytes of a run of these pairs, as layer 10's words say.
func runOf(l ...api.Pair) string {
	all := []string{number(len(l), 8)}
	for _, p := range l {
		all = append(all, number(marked(p), 1)+number(len(p.Key), 2)+p.Key+p.Value)
	}
	return framed(all...)
}

// manOf has the bytes of a man, as layer 11's words say.
func manOf(m api.Man) string {
	s := number(int(m.Wal), 8) + number(int(m.Next), 8) + number(len(m.Runs), 8)
	for _, n := range m.Runs {
		s += number(int(n), 8)
	}
	return framed(s)
}

// walFile is the name of the store's wal n, runFile that of its run n.
func walFile(name string, n uint64) string { return fmt.Sprintf("%s.wal.%012x", name, n) }
func runFile(name string, n uint64) string { return fmt.Sprintf("%s.run.%012x", name, n) }

// fine fails the test unless all of these are OK.
func fine(t *testing.T, errs ...api.Errno) {
	t.Helper()
	tells(t, api.OK, errs...)
}

// tells fails the test unless all of these are the one that is wanted.
func tells(t *testing.T, want api.Errno, errs ...api.Errno) {
	t.Helper()
	for i, e := range errs {
		if e != want {
			t.Fatalf("call %d tells %v, not %v", i, e, want)
		}
	}
}

// fresh is a new disk with room for n bytes.
func fresh(t *testing.T, n int) *disk.Disk {
	t.Helper()
	d, e := disk.New(n)
	if d == nil || e != api.OK {
		t.Fatalf("New(%d): %v %v", n, d, e)
	}
	return d
}

// laid is a disk with these files, for good.
func laid(t *testing.T, files map[string]string) *disk.Disk {
	t.Helper()
	d := fresh(t, api.MaxRoom)
	for _, name := range slices.Sorted(maps.Keys(files)) {
		fine(t, d.Append(name, files[name]))
	}
	fine(t, d.Sync())
	return d
}

// listed has files as they are told where a test failed.
func listed(files map[string]string) string {
	var b strings.Builder
	for _, name := range slices.Sorted(maps.Keys(files)) {
		s := files[name]
		if len(s) > 2000 {
			s = fmt.Sprintf("%d bytes, sum %08x", len(s), crc32.ChecksumIEEE([]byte(s)))
		}
		fmt.Fprintf(&b, "%s:%q ", name, s)
	}
	return b.String()
}

// filesOf has all files of a disk that goes on.
func filesOf(t *testing.T, d *disk.Disk) map[string]string {
	t.Helper()
	files := map[string]string{}
	for _, name := range d.Names() {
		s, e := d.Read(name, 0, math.MaxInt)
		if e != api.OK {
			t.Fatalf("Read of %s: %v", name, e)
		}
		files[name] = s
	}
	return files
}

// seen is all that a disk that goes on has.
func seen(t *testing.T, d *disk.Disk) string {
	t.Helper()
	return fmt.Sprintf("%sloose %d", listed(filesOf(t, d)), d.Loose())
}

// same fails the test unless the calls leave the disk as it was, and burn no fuse.
func same(t *testing.T, d *disk.Disk, calls func()) {
	t.Helper()
	before := seen(t, d)
	burns(t, d, 0, calls)
	if after := seen(t, d); after != before {
		t.Fatalf("the disk has %s, not %s", after, before)
	}
}

// burns fails the test unless the calls burn just n calls of a fuse: with n of them all is OK, and the disk goes on, up to the next call.
func burns(t *testing.T, d *disk.Disk, n int, calls func()) {
	t.Helper()
	fine(t, d.Fuse(n))
	calls()
	tells(t, api.ErrDown, d.Sync())
	fine(t, d.Fuse(-1))
}

// still does the calls while the disk stands still.
func still(t *testing.T, d *disk.Disk, calls func()) {
	t.Helper()
	fine(t, d.Fuse(0))
	tells(t, api.ErrDown, d.Sync())
	calls()
	tells(t, api.ErrDown, d.Sync())
	fine(t, d.Fuse(-1))
}

// hasFiles fails the test unless the disk has just these files, for good.
func hasFiles(t *testing.T, d *disk.Disk, want map[string]string) {
	t.Helper()
	if d.Loose() != 0 {
		t.Fatalf("loose %d", d.Loose())
	}
	if have := filesOf(t, d); !maps.Equal(have, want) {
		t.Fatalf("the disk has %s, not %s", listed(have), listed(want))
	}
}

// opened is the store of that name.
func opened(t *testing.T, d *disk.Disk, name string) *kv.Kv {
	t.Helper()
	k, e := kv.Open(d, name)
	if k == nil || e != api.OK {
		t.Fatalf("Open of %q: %v %v", name, k, e)
	}
	return k
}

// refused fails the test unless Open tells that error, and nothing else.
func refused(t *testing.T, d *disk.Disk, name string, want api.Errno) {
	t.Helper()
	if k, e := kv.Open(d, name); k != nil || e != want {
		t.Fatalf("Open of %q: %v %v, not %v", name, k, e, want)
	}
}

// gets fails the test unless Get answers these values.
func gets(t *testing.T, k *kv.Kv, l ...api.Pair) {
	t.Helper()
	for _, p := range l {
		if v, is, e := k.Get(p.Key); v != p.Value || !is || e != api.OK {
			t.Fatalf("Get of %s: %s %v %v, not %s", short(p.Key), short(v), is, e, short(p.Value))
		}
	}
}

// misses fails the test unless Get tells that there is none of these keys.
func misses(t *testing.T, k *kv.Kv, keys ...string) {
	t.Helper()
	for _, key := range keys {
		if v, is, e := k.Get(key); v != "" || is || e != api.OK {
			t.Fatalf("Get of %s: %s %v %v, not none", short(key), short(v), is, e)
		}
	}
}

// fails fails the test unless Get of these keys tells that error, and nothing else.
func fails(t *testing.T, k *kv.Kv, want api.Errno, keys ...string) {
	t.Helper()
	for _, key := range keys {
		if v, is, e := k.Get(key); v != "" || is || e != want {
			t.Fatalf("Get of %s: %s %v %v, not %v", short(key), short(v), is, e, want)
		}
	}
}

// scans fails the test unless Scan answers these pairs.
func scans(t *testing.T, k *kv.Kv, from, to string, most int, want ...api.Pair) {
	t.Helper()
	if l, e := k.Scan(from, to, most); !slices.Equal(l, want) || e != api.OK {
		t.Fatalf("Scan from %s to %s, %d: %s %v, not %s", short(from), short(to), most, shown(l...), e, shown(want...))
	}
}

// scanFails fails the test unless Scan tells that error, and no pairs.
func scanFails(t *testing.T, k *kv.Kv, from, to string, most int, want api.Errno) {
	t.Helper()
	if l, e := k.Scan(from, to, most); len(l) != 0 || e != want {
		t.Fatalf("Scan from %s to %s, %d: %s %v, not %v", short(from), short(to), most, shown(l...), e, want)
	}
}

// plain is a store told the plain way: what it has, and which files it is.
type plain struct {
	name    string
	man     api.Man
	records []string
	mem     map[string]api.Pair
	runs    []map[string]api.Pair
}

// plainOf is a store without pairs.
func plainOf(name string) *plain {
	return &plain{name: name, man: api.Man{Wal: 1, Next: 2}, mem: map[string]api.Pair{}}
}

func (p *plain) apply(l ...api.Pair) {
	if len(l) == 0 {
		return
	}
	p.records = append(p.records, batchOf(l...))
	for _, x := range l {
		p.mem[x.Key] = x
	}
}

func (p *plain) flush() {
	if len(p.mem) == 0 {
		return
	}
	n := p.man.Next
	p.man = api.Man{Wal: n + 1, Runs: append(p.man.Runs, n), Next: n + 2}
	p.runs = append(p.runs, p.mem)
	p.mem, p.records = map[string]api.Pair{}, nil
}

func (p *plain) compact() {
	if len(p.runs) < 2 {
		return
	}
	all := map[string]api.Pair{}
	for _, r := range p.runs {
		maps.Copy(all, r)
	}
	maps.DeleteFunc(all, func(_ string, x api.Pair) bool { return x.Gone })
	p.runs = []map[string]api.Pair{all}
	p.man = api.Man{Wal: p.man.Wal, Runs: []uint64{p.man.Next}, Next: p.man.Next + 1}
}

// clone is the same store again, that changes by itself.
func (p *plain) clone() *plain {
	q := *p
	q.man.Runs, q.records, q.mem, q.runs = slices.Clone(p.man.Runs), slices.Clone(p.records), maps.Clone(p.mem), slices.Clone(p.runs)
	return &q
}

// sorted has the pairs of a map in the order of their keys.
func sorted(m map[string]api.Pair) []api.Pair {
	var l []api.Pair
	for _, key := range slices.Sorted(maps.Keys(m)) {
		l = append(l, m[key])
	}
	return l
}

// all has the pair of each key that ever was put, as far as that is known.
func (p *plain) all() map[string]api.Pair {
	all := map[string]api.Pair{}
	for _, r := range p.runs {
		maps.Copy(all, r)
	}
	maps.Copy(all, p.mem)
	return all
}

// pairs has those that are there, in order.
func (p *plain) pairs() []api.Pair {
	return slices.DeleteFunc(sorted(p.all()), func(x api.Pair) bool { return x.Gone })
}

// within has those of these pairs that a Scan must answer.
func within(l []api.Pair, from, to string, most int) []api.Pair {
	var some []api.Pair
	for _, x := range l {
		if x.Key >= from && (to == "" || x.Key < to) && len(some) < most {
			some = append(some, x)
		}
	}
	return some
}

// files has the store's files; the wal's is there once a batch is.
func (p *plain) files() map[string]string {
	files := map[string]string{p.name + ".man": manOf(p.man)}
	if len(p.records) > 0 {
		files[walFile(p.name, p.man.Wal)] = framed(p.records...)
	}
	for i, r := range p.runs {
		files[runFile(p.name, p.man.Runs[i])] = runOf(sorted(r)...)
	}
	return files
}

// reads fails the test unless k tells just the pairs of p.
func (p *plain) reads(t *testing.T, k *kv.Kv) {
	t.Helper()
	there := p.pairs()
	scans(t, k, "", "", math.MaxInt, there...)
	gets(t, k, there...)
	for _, x := range p.all() {
		if x.Gone {
			misses(t, k, x.Key)
		}
	}
	misses(t, k, "", "none", strings.Repeat("n", 513))
	if k.Runs() != len(p.runs) {
		t.Fatalf("%d runs, not %d", k.Runs(), len(p.runs))
	}
}

// is fails the test unless k, that is not down, is just p, also once it is opened again, and the disk has its files alone, for good.
func (p *plain) is(t *testing.T, d *disk.Disk, k *kv.Kv) {
	t.Helper()
	fine(t, k.Fault())
	p.reads(t, k)
	hasFiles(t, d, p.files())
	same(t, d, func() { p.reads(t, opened(t, d, p.name)) })
}

// madeOf is a store with a run of each of these lists but the last one, which is in its mem; its disk; and the same told the plain way.
func madeOf(t *testing.T, lists ...[]api.Pair) (*disk.Disk, *kv.Kv, *plain) {
	t.Helper()
	d := fresh(t, api.MaxRoom)
	k, p := opened(t, d, "s"), plainOf("s")
	for i, l := range lists {
		if i > 0 {
			fine(t, k.Flush())
			p.flush()
		}
		fine(t, k.Apply(l))
		p.apply(l...)
	}
	p.is(t, d, k)
	return d, k, p
}

// stuck fails the test unless k is down by that error: each call that changes tells it, and does nothing, whatever it is given.
func stuck(t *testing.T, k *kv.Kv, why api.Errno) {
	t.Helper()
	tells(t, why, k.Fault(), k.Apply(nil), k.Apply([]api.Pair{pair("a", "other")}), k.Apply([]api.Pair{{}}),
		k.Apply(make([]api.Pair, api.MaxBatch+1)), k.Flush(), k.Compact(), k.Fault())
}

// The chapter's examples, one behind the other.
func TestExamples(t *testing.T) {
	d := fresh(t, 1000)
	k := opened(t, d, "s")
	fine(t, k.Apply([]api.Pair{pair("a", "1"), pair("b", "2")}), k.Flush(), k.Apply([]api.Pair{pair("a", "3"), gone("b")}))
	gets(t, k, pair("a", "3"))
	misses(t, k, "b")
	if k.Runs() != 1 {
		t.Fatalf("%d runs", k.Runs())
	}
	fine(t, k.Flush(), k.Compact())
	scans(t, k, "", "", 9, pair("a", "3"))
	if k.Runs() != 1 {
		t.Fatalf("%d runs", k.Runs())
	}
	fine(t, d.Fuse(1))
	tells(t, api.ErrDown, k.Apply([]api.Pair{pair("c", "4")}))
	fine(t, d.Crash(1, 0))
	gets(t, opened(t, d, "s"), pair("c", "4"))
}

// P12.2, P12.3, P12.4, P12.5: no store: ErrNil, zero values, and nothing is done, whatever is given.
func TestNoStore(t *testing.T) {
	var k *kv.Kv
	tells(t, api.ErrNil, k.Apply(nil), k.Apply([]api.Pair{pair("a", "1")}), k.Apply([]api.Pair{{}}), k.Apply(make([]api.Pair, 5000)), k.Flush(), k.Compact(), k.Fault())
	fails(t, k, api.ErrNil, "", "a", strings.Repeat("a", 600))
	for _, most := range []int{-1, 0, 1, math.MaxInt} {
		scanFails(t, k, "", "", most, api.ErrNil)
		scanFails(t, k, "b", "a", most, api.ErrNil)
	}
	if k.Runs() != 0 {
		t.Fatalf("%d runs", k.Runs())
	}
}
