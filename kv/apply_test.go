package kv_test

import (
	"fmt"
	"math"
	"slices"
	"strings"
	"testing"

	"fascicle/api"
)

// wrongPairs has pairs of each kind that may not be.
func wrongPairs() []api.Pair {
	return []api.Pair{
		{}, {Value: "v"}, {Gone: true}, {Key: strings.Repeat("k", api.MaxKey+1)}, {Key: strings.Repeat("k", 1000), Gone: true},
		{Key: "k", Value: strings.Repeat("v", api.MaxVal+1)}, {Key: "k", Value: "v", Gone: true}, {Key: "k", Value: strings.Repeat("v", api.MaxVal+1), Gone: true}, {Value: "v", Gone: true},
	}
}

// rightPairs has pairs of each kind that may be.
func rightPairs() []api.Pair {
	return []api.Pair{
		pair("a", "1"), pair("b", ""), gone("c"), pair("\x00", "\x00"), pair("\xff\xff", letters(300)), gone(strings.Repeat("k", api.MaxKey)),
		pair(letters(api.MaxKey), letters(api.MaxVal)), pair("a", "2"), gone("b"), pair("c", "3"),
	}
}

// many is n pairs, of n keys.
func many(n int) []api.Pair {
	l := make([]api.Pair, n)
	for i := range l {
		l[i] = pair(fmt.Sprintf("key %d", i), fmt.Sprint(i))
	}
	return l
}

// P12.2: of no pairs nothing is done, also on a disk that stands still, or has something loose.
func TestApplyNone(t *testing.T) {
	d, k, p := madeOf(t, []api.Pair{pair("a", "1")})
	fine(t, d.Append("loose", "x"))
	none := func() { fine(t, k.Apply(nil), k.Apply([]api.Pair{})) }
	same(t, d, none)
	still(t, d, none)
	fine(t, d.Remove("loose"), d.Sync())
	p.is(t, d, k)
}

// P12.2: pairs of each kind, one by one and all at once, by two calls of the disk, for good; a batch's bytes are those of the chapter.
func TestApply(t *testing.T) {
	d, k, p := madeOf(t, nil)
	for _, x := range rightPairs() {
		burns(t, d, 2, func() { fine(t, k.Apply([]api.Pair{x})) })
		p.apply(x)
		p.is(t, d, k)
	}
	burns(t, d, 2, func() { fine(t, k.Apply(rightPairs())) })
	p.apply(rightPairs()...)
	p.is(t, d, k)
	fine(t, d.Crash(0, 0))
	p.is(t, d, k)
}

// P12.2: a batch, written out.
func TestApplyBytes(t *testing.T) {
	d, k, _ := madeOf(t, nil)
	fine(t, k.Apply([]api.Pair{pair("ab", "xyz"), gone("c"), pair("\x00", strings.Repeat("v", 0x10203))}))
	want := "\x03\x00" + "\x00\x02\x00\x03\x00\x00abxyz" + "\x01\x01\x00\x00\x00\x00c" + "\x00\x01\x00\x03\x02\x01\x00" + strings.Repeat("v", 0x10203)
	s, e := d.Read("s.wal.000000000001", 0, math.MaxInt)
	if e != api.OK || s != framed(want) {
		t.Fatalf("%s %v", short(s), e)
	}
	if s, _ := d.Read("s.wal.000000000001", 0, 12); s[:4] != "\x1e\x02\x01\x00" {
		t.Fatalf("%q", s)
	}
}

// P12.2: of one key several times the last one counts, in one batch and in several.
func TestApplyTwice(t *testing.T) {
	for _, l := range [][]api.Pair{
		{pair("a", "1"), pair("a", "2")}, {pair("a", "1"), gone("a")}, {gone("a"), pair("a", "1")}, {gone("a"), gone("a")},
		{pair("a", "1"), pair("b", "1"), pair("a", "2"), gone("b"), gone("a"), pair("a", "")},
	} {
		for _, flushed := range []bool{false, true} {
			d, k, p := madeOf(t, nil)
			for _, part := range [][]api.Pair{l, l[:1], l[1:]} {
				fine(t, k.Apply(part))
				p.apply(part...)
				if flushed {
					fine(t, k.Flush())
					p.flush()
				}
				p.is(t, d, k)
			}
		}
	}
}

// P12.2: as many pairs as may be, and one more; also where the one more, or all of them, may not be.
func TestApplyMany(t *testing.T) {
	d, k, p := madeOf(t, nil)
	for _, n := range []int{api.MaxBatch - 1, api.MaxBatch} {
		fine(t, k.Apply(many(n)))
		p.apply(many(n)...)
		p.is(t, d, k)
	}
	for _, n := range []int{api.MaxBatch + 1, 2 * api.MaxBatch, 1 << 16, 1<<16 + 1} {
		same(t, d, func() { tells(t, api.ErrArg, k.Apply(many(n)), k.Apply(make([]api.Pair, n))) })
	}
	p.is(t, d, k)
	one := slices.Repeat([]api.Pair{pair("a", "1")}, api.MaxBatch)
	fine(t, k.Apply(one))
	p.apply(one...)
	p.is(t, d, k)
	tells(t, api.ErrArg, k.Apply(append(one, one[0])))
}

// P12.2: a pair that may not be, of each kind, in each place: ErrArg, nothing is put, and it is not down.
func TestApplyWrong(t *testing.T) {
	d, k, p := madeOf(t, []api.Pair{pair("a", "1")}, []api.Pair{pair("b", "1")})
	right := []api.Pair{pair("a", "2"), pair("b", "2"), gone("c")}
	for _, wrong := range wrongPairs() {
		for n := range len(right) + 1 {
			l := slices.Insert(slices.Clone(right), n, wrong)
			same(t, d, func() { tells(t, api.ErrArg, k.Apply(l), k.Apply([]api.Pair{wrong})) })
			still(t, d, func() { tells(t, api.ErrArg, k.Apply(l)) })
		}
		l := many(api.MaxBatch)
		l[api.MaxBatch-1] = wrong
		tells(t, api.ErrArg, k.Apply(l))
	}
	p.is(t, d, k)
	fine(t, k.Apply(right))
	p.apply(right...)
	p.is(t, d, k)
}

// ofSize is pairs whose batch has n bytes, of some megabytes.
func ofSize(n int) []api.Pair {
	l := make([]api.Pair, 16)
	n -= 2 + 16*(6+1)
	for i := range l {
		size := min(n, api.MaxVal)
		l[i] = pair(string(rune('a'+i)), strings.Repeat(string(rune('A'+i)), size))
		n -= size
	}
	return l
}

// P12.2: batches about MaxFrame bytes: one that has more is ErrLong, behind a pair that may not be, and ahead of a disk without room or one that stands still; nothing is put, and it is not down.
func TestApplyLong(t *testing.T) {
	d, k, p := madeOf(t, []api.Pair{pair("z", "1")})
	for _, n := range []int{api.MaxFrame - 1, api.MaxFrame} {
		l := ofSize(n)
		if len(batchOf(l...)) != n {
			t.Fatalf("%d bytes, not %d", len(batchOf(l...)), n)
		}
		fine(t, k.Apply(l))
		p.apply(l...)
		p.is(t, d, k)
	}
	for _, l := range [][]api.Pair{ofSize(api.MaxFrame + 1), append(ofSize(api.MaxFrame), gone("z")), slices.Repeat([]api.Pair{pair("k", strings.Repeat("v", api.MaxVal))}, api.MaxBatch)} {
		same(t, d, func() { tells(t, api.ErrLong, k.Apply(l)) })
		still(t, d, func() { tells(t, api.ErrLong, k.Apply(l)) })
		tells(t, api.ErrArg, k.Apply(append(slices.Clone(l), api.Pair{})), k.Apply(append([]api.Pair{{}}, l...)))
		fine(t, d.Room(0))
		tells(t, api.ErrLong, k.Apply(l))
		fine(t, d.Room(api.MaxRoom))
	}
	p.is(t, d, k)
}

// P12.2, P12.6: a disk with too little room: ErrFull, nothing has changed, and it is not down; a lesser batch, or the same once there is room, is put.
func TestApplyFull(t *testing.T) {
	d, k, p := madeOf(t, []api.Pair{pair("a", "1"), pair("b", "1")}, []api.Pair{pair("c", "1")})
	l := []api.Pair{gone("a"), pair("b", "22"), pair("d", "")}
	need := len(framed(batchOf(l...)))
	for n := range need {
		fine(t, d.Room(d.Used()+n))
		same(t, d, func() { tells(t, api.ErrFull, k.Apply(l), k.Apply(l)) })
		p.is(t, d, k)
	}
	less := []api.Pair{gone("c")}
	fine(t, k.Apply(less))
	p.apply(less...)
	p.is(t, d, k)
	fine(t, d.Room(d.Used()+need), k.Apply(l))
	p.apply(l...)
	p.is(t, d, k)
}

// P12.2, P12.5: where the disk stands still at each call of an Apply: its error, nothing has changed, and it is down: also behind a crash, and on a disk that goes on. What it reads it still reads.
func TestApplyFuse(t *testing.T) {
	l := []api.Pair{gone("a"), pair("b", "2"), pair("d", "")}
	for n := range 2 {
		d, k, p := madeOf(t, []api.Pair{pair("a", "1"), pair("b", "1")}, []api.Pair{pair("c", "1")})
		fine(t, d.Fuse(n))
		tells(t, api.ErrDown, k.Apply(l))
		stuck(t, k, api.ErrDown)
		fine(t, d.Fuse(-1))
		same(t, d, func() {
			stuck(t, k, api.ErrDown)
			p.reads(t, k)
		})
		if d.Loose() != n {
			t.Fatalf("loose %d, not %d", d.Loose(), n)
		}
		fine(t, d.Crash(0, 30))
		stuck(t, k, api.ErrDown)
		p.reads(t, k)
		p.is(t, d, opened(t, d, "s"))
	}
}

// P12.2, P12.5: a store is down by its first error, whatever comes behind it; a wrong argument, one that is too long and a want of room put none down.
func TestFault(t *testing.T) {
	d, k, p := madeOf(t, []api.Pair{pair("a", "1")})
	fine(t, k.Fault(), d.Room(d.Used()))
	tells(t, api.ErrFull, k.Apply([]api.Pair{pair("b", "2")}))
	tells(t, api.ErrArg, k.Apply([]api.Pair{{}}))
	tells(t, api.ErrLong, k.Apply(ofSize(api.MaxFrame+1)))
	fine(t, k.Fault(), d.Room(room))
	still(t, d, func() {
		fine(t, k.Fault())
		tells(t, api.ErrDown, k.Apply([]api.Pair{pair("b", "2")}), k.Fault())
	})
	fine(t, d.Room(0))
	stuck(t, k, api.ErrDown)
	p.reads(t, k)
	p.is(t, d, opened(t, d, "s"))
}

// R5: a list that was given is as it was, and is not kept; lists that were told are new, and are no part of the store.
func TestShared(t *testing.T) {
	d, k, p := madeOf(t, []api.Pair{pair("a", "1"), pair("b", "2")}, []api.Pair{pair("c", "3")})
	l := []api.Pair{pair("c", "4"), pair("d", "5")}
	fine(t, k.Apply(l))
	p.apply(l...)
	if !slices.Equal(l, []api.Pair{pair("c", "4"), pair("d", "5")}) {
		t.Fatal(shown(l...))
	}
	l[0], l[1] = pair("x", "y"), api.Pair{}
	p.is(t, d, k)
	told, _ := k.Scan("", "", 9)
	again, _ := k.Scan("", "", 9)
	clear(told)
	_ = append(told[:1], pair("x", "y"))
	if !slices.Equal(again, p.pairs()) {
		t.Fatal(shown(again...))
	}
	p.is(t, d, k)
	fine(t, k.Flush(), k.Compact())
	p.flush()
	p.compact()
	p.is(t, d, k)
	if !slices.Equal(again, p.pairs()) {
		t.Fatal(shown(again...))
	}
}
