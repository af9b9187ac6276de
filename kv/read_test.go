package kv_test

import (
	"fmt"
	"math"
	"math/rand"
	"slices"
	"strings"
	"testing"

	"fascicle/api"
	"fascicle/kv"
)

// mixed is a store with keys in the mem, in each of its three runs, in several, Gone in the one or the other.
func mixed() [][]api.Pair {
	var l [4][]api.Pair
	// A key for each way to stand in four places: not there, there, Gone.
	for way := range 81 {
		key := fmt.Sprintf("k%02d", way)
		for i, rest := 0, way; i < 4; i, rest = i+1, rest/3 {
			switch rest % 3 {
			case 1:
				l[i] = append(l[i], pair(key, fmt.Sprintf("%s of %d", key, i)))
			case 2:
				l[i] = append(l[i], gone(key))
			}
		}
	}
	return l[:]
}

// small is a store of few keys, some of which begin as others do.
func small() [][]api.Pair {
	return [][]api.Pair{
		{pair("a", "1"), pair("ab", "1"), gone("b"), pair("c", "1"), pair("\xff", "1")},
		{gone("a"), pair("a\x00", "2"), pair("b", "2"), pair("c", "2")},
		{pair("ab", ""), gone("c"), pair("\x00", "3"), pair("\xff\xff", "3")},
	}
}

// P12.3: the pair of each key is that in the mem, else that in the youngest run that has one; it is there if it is not Gone.
func TestGet(t *testing.T) {
	_, k, p := madeOf(t, mixed()...)
	count := 0
	for way := range 81 {
		key := fmt.Sprintf("k%02d", way)
		x, is := p.all()[key]
		if is && !x.Gone {
			gets(t, k, x)
			count++
		} else {
			misses(t, k, key)
		}
		misses(t, k, key+"\x00", key[:2], key+"0")
	}
	if count != 40 {
		t.Fatalf("%d keys", count)
	}
	misses(t, k, "", strings.Repeat("k", 512), strings.Repeat("k", 2000), "\xff")
}

// bounds has texts about the keys of a store.
func bounds(l []api.Pair) []string {
	all := []string{"", "\x00", "zz", "\xff\xff\xff"}
	for _, x := range l {
		all = append(all, x.Key, x.Key+"\x00", x.Key[:len(x.Key)-1])
	}
	return slices.Compact(slices.Sorted(slices.Values(all)))
}

// scansAll fails the test unless k, which has just these pairs, tells them right within all bounds, in all counts.
func scansAll(t *testing.T, k *kv.Kv, there []api.Pair, bounds []string) {
	t.Helper()
	for _, from := range bounds {
		for _, to := range bounds {
			n := len(within(there, from, to, math.MaxInt))
			for _, most := range []int{math.MinInt, -1, 0, 1, 2, n - 1, n, n + 1, math.MaxInt} {
				scans(t, k, from, to, most, within(there, from, to, most)...)
			}
		}
	}
}

// P12.3: scans within all bounds about the keys, in all counts, of a store with none, one, several runs, with the mem empty or not.
func TestScan(t *testing.T) {
	for n := range 4 {
		lists := append(slices.Clone(small()[:n]), nil)
		_, k, p := madeOf(t, lists...)
		scansAll(t, k, p.pairs(), bounds(sorted(p.all())))
		_, k, p = madeOf(t, small()[:max(n, 1)]...)
		scansAll(t, k, p.pairs(), bounds(sorted(p.all())))
	}
	_, k, p := madeOf(t, mixed()...)
	scansAll(t, k, p.pairs(), []string{"", "k", "k00", "k01", "k39", "k3", "k40\x00", "k5", "k80", "k80\x00", "l"})
	scans(t, k, "k40", "k40", 9)
	scans(t, k, "k50", "k40", 9)
}

// P12.3: a scan, cut anywhere and gone on with, is the whole.
func TestScanOn(t *testing.T) {
	_, k, p := madeOf(t, mixed()...)
	for most := 1; most <= 41; most++ {
		var all []api.Pair
		for from := ""; ; from = all[len(all)-1].Key + "\x00" {
			l, e := k.Scan(from, "", most)
			fine(t, e)
			all = append(all, l...)
			if len(l) < most {
				break
			}
		}
		if !slices.Equal(all, p.pairs()) {
			t.Fatalf("%d at once: %s", most, shown(all...))
		}
	}
}

// P12.3: keys in many runs, put in any order, come in order, each the youngest one's.
func TestScanManyRuns(t *testing.T) {
	r := rand.New(rand.NewSource(12))
	for _, runs := range []int{5, 16, 33} {
		var lists [][]api.Pair
		for i := range runs {
			var l []api.Pair
			for range 1 + r.Intn(30) {
				key := fmt.Sprint(r.Intn(100))
				l = append(l, pair(key, fmt.Sprint(key, " of ", i)))
				if r.Intn(4) == 0 {
					l[len(l)-1] = gone(key)
				}
			}
			lists = append(lists, l)
		}
		_, k, p := madeOf(t, lists...)
		scansAll(t, k, p.pairs(), []string{"", "1", "19", "2", "30", "5", "50", "7\x00", "99"})
	}
}

// P12.3: on a disk that stands still what is in the mem is told; what must be looked for in a run is ErrDown, but where no run has it.
func TestReadStill(t *testing.T) {
	d, k, p := madeOf(t, []api.Pair{pair("a", "1"), pair("b", "1"), pair("d", "1")}, []api.Pair{pair("a", "2"), gone("b"), pair("c", "2")})
	still(t, d, func() {
		gets(t, k, pair("a", "2"), pair("c", "2"))
		misses(t, k, "b", "e", "")
		fails(t, k, api.ErrDown, "d")
		scanFails(t, k, "", "", 9, api.ErrDown)
		scanFails(t, k, "d", "", 1, api.ErrDown)
		scans(t, k, "", "", 0)
		scans(t, k, "c", "d", 9, pair("c", "2"))
		scans(t, k, "d\x00", "", 9)
		scans(t, k, "b\x00", "d", 9, pair("c", "2"))
		if k.Runs() != 1 {
			t.Fatalf("%d runs", k.Runs())
		}
		fine(t, k.Fault())
	})
	p.is(t, d, k)
}

// P12.3: a run that is looked into, and is not there any more: its error; what need not be looked for there is told.
func TestReadMissing(t *testing.T) {
	d, k, p := madeOf(t, []api.Pair{pair("a", "1"), pair("b", "1")}, []api.Pair{pair("b", "2"), pair("c", "2")}, []api.Pair{pair("c", "3")})
	fine(t, d.Remove(runFile("s", p.man.Runs[0])))
	fails(t, k, api.ErrNone, "a")
	gets(t, k, pair("b", "2"), pair("c", "3"))
	scanFails(t, k, "", "", 9, api.ErrNone)
	scans(t, k, "b\x00", "", 9, pair("c", "3"))
	misses(t, k, "", "aa", "d")
	tells(t, api.ErrNone, k.Compact())
	fine(t, k.Fault(), k.Apply([]api.Pair{pair("a", "4")}), k.Flush())
	gets(t, k, pair("a", "4"))
	refused(t, d, "s", api.ErrNone)
}

// ownerOf tells in which pair's frame of a run of l the byte stands; -1: in none. (Each count of pairs has as many bytes: a run of the first ones ends where the next one begins.)
func ownerOf(l []api.Pair, off int) int {
	for i := range l {
		if off >= len(runOf(l[:i]...)) && off < len(runOf(l[:i+1]...)) {
			return i
		}
	}
	return -1
}

// P12.3, P12.6: each bit of each run turned behind the Open: a pair that must be read there is ErrBad, all others are told as they were; so are all once it is turned again. Nothing puts it down, and a Compact that meets it changes nothing.
func TestFlipRuns(t *testing.T) {
	d, k, p := madeOf(t, small()...)
	there := p.pairs()
	for i, r := range p.runs {
		l, name := sorted(r), runFile("s", p.man.Runs[i])
		for off := range runOf(l...) {
			bad := ownerOf(l, off)
			for bit := range 8 {
				fine(t, d.Flip(name, off, bit))
				for _, x := range there {
					if bad >= 0 && x.Key == l[bad].Key && shows(p, i, x.Key) {
						fails(t, k, api.ErrBad, x.Key)
						scanFails(t, k, x.Key, x.Key+"\x00", 1, api.ErrBad)
					} else {
						gets(t, k, x)
					}
				}
				if bad < 0 {
					p.reads(t, k)
				} else {
					scanFails(t, k, "", "", math.MaxInt, api.ErrBad)
					scans(t, k, "", l[bad].Key, math.MaxInt, within(there, "", l[bad].Key, math.MaxInt)...)
					scans(t, k, l[bad].Key+"\x00", "", math.MaxInt, within(there, l[bad].Key+"\x00", "", math.MaxInt)...)
					same(t, d, func() { tells(t, api.ErrBad, k.Compact()) })
				}
				fine(t, k.Fault(), d.Flip(name, off, bit))
			}
		}
		p.is(t, d, k)
	}
}

// shows tells whether the key's pair is that of the run i.
func shows(p *plain, i int, key string) bool {
	if _, is := p.mem[key]; is {
		return false
	}
	for _, r := range p.runs[i+1:] {
		if _, is := r[key]; is {
			return false
		}
	}
	_, is := p.runs[i][key]
	return is
}

// P12.6: each bit of each file turned ahead of the Open: it is told, and the store is not opened, nothing being done, till the bit is turned again.
func TestFlipAhead(t *testing.T) {
	for n := range 4 {
		d, _, p := madeOf(t, small()[:n]...)
		for name, text := range p.files() {
			for off := range text {
				for bit := range 8 {
					fine(t, d.Flip(name, off, bit))
					same(t, d, func() { refused(t, d, "s", api.ErrBad) })
					fine(t, d.Flip(name, off, bit))
				}
			}
			p.is(t, d, opened(t, d, "s"))
		}
	}
}

// P12.6: each bit of the man and of the wal turned behind the Open: what is read is told as it was, and so is it once a Flush has made them anew.
func TestFlipBehind(t *testing.T) {
	for _, name := range []string{"s.man", "s.wal.000000000005"} {
		_, _, p := madeOf(t, small()...)
		text := p.files()[name]
		if text == "" {
			t.Fatal("the test's own names")
		}
		for at := range 8 * len(text) {
			d, k, p := madeOf(t, small()...)
			fine(t, d.Flip(name, at/8, at%8))
			p.reads(t, k)
			refused(t, d, "s", api.ErrBad)
			fine(t, k.Apply([]api.Pair{pair("new", "5")}))
			p.apply(pair("new", "5"))
			p.reads(t, k)
			fine(t, k.Flush())
			p.flush()
			p.is(t, d, k)
		}
	}
}

// P12.6: several bits turned anywhere behind the Open: what is told is what was put, or an error.
func TestFlipMany(t *testing.T) {
	r := rand.New(rand.NewSource(13))
	bad := 0
	for range 200 {
		d, k, p := madeOf(t, mixed()...)
		names := d.Names()
		for range 1 + r.Intn(20) {
			name := names[r.Intn(len(names))]
			n, _ := d.Size(name)
			fine(t, d.Flip(name, r.Intn(n), r.Intn(8)))
		}
		for key, x := range p.all() {
			v, is, e := k.Get(key)
			if e == api.ErrBad && v == "" && !is {
				bad++
			} else if e != api.OK || is == x.Gone || v != x.Value {
				t.Fatalf("Get of %q: %q %v %v, not %v", key, v, is, e, x)
			}
		}
		for range 50 {
			from, to, most := fmt.Sprintf("k%02d", r.Intn(90)), fmt.Sprintf("k%02d", r.Intn(90)), r.Intn(30)
			l, e := k.Scan(from, to, most)
			if e == api.ErrBad && len(l) == 0 {
				bad++
			} else if e != api.OK || !slices.Equal(l, within(p.pairs(), from, to, most)) {
				t.Fatalf("Scan: %s %v", shown(l...), e)
			}
		}
		if e := k.Compact(); e != api.OK && e != api.ErrBad {
			t.Fatal(e)
		}
		fine(t, k.Fault())
		if x, e := kv.Open(d, "s"); e == api.OK {
			scans(t, x, "", "", math.MaxInt, p.pairs()...)
		}
	}
	if bad < 1000 {
		t.Fatalf("%d errors", bad)
	}
}
