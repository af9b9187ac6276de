package kv_test

import (
	"fmt"
	"maps"
	"slices"
	"strings"
	"testing"

	"fascicle/api"
	"fascicle/disk"
)

// signs has all that may stand in a name.
const signs = "abcdefghijklmnopqrstuvwxyz0123456789.-"

// wrongNames has names that may not be.
func wrongNames() []string {
	l := []string{"", "A", "a_b", "a b", "a/b", "\x00", "\xff", "\u00e9", "a\n", strings.Repeat("a", 32) + "A"}
	for _, n := range []int{33, 34, 60, 64, 65, 1000} {
		l = append(l, strings.Repeat("a", n))
	}
	for c := range 256 {
		if !strings.Contains(signs, string([]byte{byte(c)})) {
			l = append(l, string([]byte{byte(c)}), string([]byte{'a', byte(c)}), string([]byte{byte(c), 'a'}))
		}
	}
	return l
}

// rightNames has names that may be.
func rightNames() []string {
	l := []string{".", "-", "..", "s.man", "s.wal.000000000001", "s.run", "man"}
	for n := 1; n <= api.MaxStore; n++ {
		l = append(l, strings.Repeat("a", n), strings.Repeat(signs, 2)[n:2*n])
	}
	for _, c := range signs {
		l = append(l, string(c))
	}
	return l
}

// P12.1: no disk: ErrNil, whatever the name.
func TestOpenNoDisk(t *testing.T) {
	for _, name := range append(wrongNames(), rightNames()...) {
		refused(t, nil, name, api.ErrNil)
	}
}

// P12.1: names that may not be: ErrArg, and nothing is done, also on a disk that stands still, or has no room, or something loose.
func TestOpenWrongName(t *testing.T) {
	d := laid(t, map[string]string{"other": "x", ".man": "x", ".man.new": "x", ".wal.000000000001": "x"})
	fine(t, d.Append("loose", "x"), d.Room(0))
	for _, name := range wrongNames() {
		same(t, d, func() { refused(t, d, name, api.ErrArg) })
		still(t, d, func() { refused(t, d, name, api.ErrArg) })
	}
}

// P12.1: under each name that may be a store is made: a man of Wal 1, without Runs, Next 2, by the four calls of its Save.
func TestOpenNew(t *testing.T) {
	for _, name := range rightNames() {
		d := fresh(t, room)
		p := plainOf(name)
		burns(t, d, 4, func() { p.reads(t, opened(t, d, name)) })
		hasFiles(t, d, map[string]string{name + ".man": manOf(api.Man{Wal: 1, Next: 2})})
		k := opened(t, d, name)
		p.is(t, d, k)
		fine(t, k.Apply([]api.Pair{pair("a", "1")}), k.Flush(), k.Apply([]api.Pair{pair("b", "2")}))
		p.apply(pair("a", "1"))
		p.flush()
		p.apply(pair("b", "2"))
		p.is(t, d, k)
	}
}

// P12.1: a disk with too little room for the man: ErrFull, and nothing is left there.
func TestOpenNoRoom(t *testing.T) {
	need := len(manOf(api.Man{Wal: 1, Next: 2}))
	for n := range need {
		d := fresh(t, n)
		refused(t, d, "s", api.ErrFull)
		hasFiles(t, d, map[string]string{})
		fine(t, d.Room(need))
		plainOf("s").is(t, d, opened(t, d, "s"))
	}
}

// P12.1: a store that is there is read, and nothing is done: no pairs, pairs in the wal, in runs, in both.
func TestOpenThere(t *testing.T) {
	for _, lists := range [][][]api.Pair{
		{nil},
		{{pair("a", "1"), gone("b")}},
		{{pair("a", "1"), pair("b", "2")}, nil},
		{{pair("a", "1"), pair("b", "2")}, {gone("a")}, {pair("c", "")}},
	} {
		d, _, p := madeOf(t, lists...)
		burns(t, d, 0, func() { p.reads(t, opened(t, d, "s")) })
		fine(t, d.Room(0))
		p.is(t, d, opened(t, d, "s"))
	}
}

// P12.1: a store with numbers of 12 digits, whose runs do not rise; its wal is there, or not.
func TestOpenNumbers(t *testing.T) {
	p := plainOf("s")
	p.man = api.Man{Wal: 0xabcdef0123, Runs: []uint64{mostMan - 1, 5, 0xabcdef0124}, Next: mostMan}
	p.runs = []map[string]api.Pair{
		{"a": pair("a", "1"), "b": pair("b", "1")}, {"a": pair("a", "2"), "c": pair("c", "2")}, {"a": pair("a", "3")},
	}
	p.is(t, laid(t, p.files()), opened(t, laid(t, p.files()), "s"))
	p.apply(gone("c"))
	d := laid(t, p.files())
	p.is(t, d, opened(t, d, "s"))
	if _, is := p.files()["s.wal.00abcdef0123"]; !is {
		t.Fatal("the test's own names")
	}
}

// strays has files that are none of the store's of TestOpenStrays, but of its kind; others has such as are of no kind of its.
func strays() []string {
	l := []string{"s.man.new"}
	for _, n := range []string{"000000000000", "000000000001", "000000000002", "000000000003", "000000000008", "00000000000a", "0123456789ab", "ffffffffffff", "999999999999"} {
		l = append(l, "s.wal."+n)
	}
	for _, n := range []string{"000000000000", "000000000001", "000000000002", "000000000005", "000000000009", "00000000000f", "cdef00000003", "ffffffffffff", "100000000003"} {
		l = append(l, "s.run."+n)
	}
	return l
}

func others() []string {
	l := []string{
		"s", "s.", "s.ma", "s.man.", "s.man.ne", "s.man.new.", "s.man.new.new", "s.man.new0", "s.man-new", "sman.new", "ss.man.new", "s.s.man.new", "-s.man.new", "man.new", ".man.new",
		"s.wal", "s.wal.", "s.run", "s.run.", "s.new", "s.wal.new", "s.run.000000000003.new", "s.wal.man.new",
	}
	for _, kind := range []string{"wal", "run"} {
		for _, n := range []string{"0", "00000000002", "0000000000002", "00000000000g", "g00000000000", "00000-000002", "00000000000.", ".00000000002", "-00000000002", "000000000002.", "000000000002.new", "0x0000000002", "000000z00002", "1000000000000000"} {
			l = append(l, "s."+kind+"."+n)
		}
		for _, begin := range []string{"", "ss.", "t.", "s.s.", "-s.", "s", "s-", "s..", "0."} {
			l = append(l, begin+kind+".000000000002", begin+kind+".000000000001")
		}
	}
	l = append(l, "s.wall.000000000002", "s.walx000000000002", "s.wal-000000000002", "s.runs.000000000002", "s.ran.000000000002", "s.wal.wal.000000000002", "s.run.run.000000000002")
	l = append(l, "t.man", "t.wal.000000000005", "t.run.000000000003", "t.man.new")
	return slices.Compact(slices.Sorted(slices.Values(l)))
}

// P12.1: files of the store's kind that are none of its are removed, all of them and each alone, for good, by a call for each and a Sync; all others stay.
func TestOpenStrays(t *testing.T) {
	p := plainOf("s")
	p.man = api.Man{Wal: 5, Runs: []uint64{8, 3}, Next: 9}
	p.runs = []map[string]api.Pair{{"a": pair("a", "1"), "b": pair("b", "1")}, {"a": gone("a")}}
	for _, batches := range []int{0, 1} {
		if batches > 0 {
			p.apply(pair("c", "2"))
		}
		stay := p.files()
		for _, name := range others() {
			stay[name] = "other " + name
		}
		d := laid(t, stay)
		burns(t, d, 0, func() { p.reads(t, opened(t, d, "s")) })
		hasFiles(t, d, stay)
		for _, name := range strays() {
			fine(t, d.Append(name, "stray"), d.Sync())
			burns(t, d, 2, func() { p.reads(t, opened(t, d, "s")) })
			hasFiles(t, d, stay)
		}
		for _, name := range strays() {
			fine(t, d.Append(name, ""))
		}
		fine(t, d.Sync())
		burns(t, d, len(strays())+1, func() { p.reads(t, opened(t, d, "s")) })
		hasFiles(t, d, stay)
		fine(t, d.Crash(0, 0))
		hasFiles(t, d, stay)
	}
}

// P12.1: on a disk without a man: files of the store's kind are removed, but the wal 1, which is its; and a file beside that a Save left.
func TestOpenStraysNew(t *testing.T) {
	p := plainOf("s")
	p.apply(pair("a", "1"))
	stay := p.files()
	delete(stay, "s.man")
	for _, name := range others() {
		stay[name] = "other " + name
	}
	d := laid(t, stay)
	count := 0
	for _, name := range strays() {
		if name != "s.wal.000000000001" {
			fine(t, d.Append(name, "stray"))
			count++
		}
	}
	fine(t, d.Append("s.wal.000000000005", "stray"), d.Append("s.run.000000000003", "stray"), d.Sync())
	// The Save itself removes the one beside, by one call: it isn't there any more then.
	burns(t, d, 5+count-1+2+1, func() { p.reads(t, opened(t, d, "s")) })
	maps.Copy(stay, p.files())
	hasFiles(t, d, stay)
}

// P12.1: where the disk stands still at each call of an Open that makes a store, or removes what is left: ErrDown, and behind each crash the store is opened as ever.
func TestOpenFuse(t *testing.T) {
	p := plainOf("s")
	p.apply(pair("a", "1"))
	p.flush()
	p.apply(pair("b", "2"))
	dirty := p.files()
	for _, name := range []string{"s.man.new", "s.wal.000000000001", "s.run.000000000007"} {
		dirty[name] = "stray"
	}
	for _, x := range []struct {
		files map[string]string
		calls int
		want  *plain
	}{
		{map[string]string{}, 4, plainOf("s")},
		{map[string]string{"s.man.new": "stray"}, 5, plainOf("s")},
		{map[string]string{"s.man.new": "stray", "s.wal.000000000002": "stray"}, 7, plainOf("s")},
		{dirty, 4, p},
	} {
		for n := range x.calls {
			for keep := -1; keep <= 4; keep++ {
				for _, torn := range []int{0, 1, 12, 35, 36, 99} {
					d := laid(t, x.files)
					fine(t, d.Fuse(n))
					refused(t, d, "s", api.ErrDown)
					refused(t, d, "s", api.ErrDown)
					fine(t, d.Crash(keep, torn))
					x.want.is(t, d, opened(t, d, "s"))
				}
			}
			d := laid(t, x.files)
			fine(t, d.Fuse(n))
			refused(t, d, "s", api.ErrDown)
			fine(t, d.Fuse(-1))
			x.want.is(t, d, opened(t, d, "s"))
		}
		d := laid(t, x.files)
		burns(t, d, x.calls, func() { opened(t, d, "s") })
		x.want.is(t, d, opened(t, d, "s"))
	}
}

// P12.1: a disk that stands still: ErrDown, and nothing is done.
func TestOpenStill(t *testing.T) {
	d, _, p := madeOf(t, []api.Pair{pair("a", "1")}, []api.Pair{pair("b", "2")})
	for _, name := range []string{"s", "t", strings.Repeat("a", 32)} {
		still(t, d, func() { refused(t, d, name, api.ErrDown) })
	}
	p.is(t, d, opened(t, d, "s"))
}

// P12.1: what was loose ahead of an Open is for good behind it.
func TestOpenLoose(t *testing.T) {
	p := plainOf("s")
	p.apply(pair("a", "1"))
	p.flush()
	p.apply(pair("b", "2"))
	d := fresh(t, room)
	for name, text := range p.files() {
		fine(t, d.Append(name, text))
	}
	fine(t, d.Append("other", "x"))
	burns(t, d, 1, func() { p.reads(t, opened(t, d, "s")) })
	fine(t, d.Crash(0, 0))
	want := p.files()
	want["other"] = "x"
	hasFiles(t, d, want)
}

// spoilt has wrong texts of a file of frames, with the error by which each is told.
func spoilt(right string) map[string]api.Errno {
	turned := []byte(right)
	turned[len(turned)-1] ^= 1
	return map[string]api.Errno{
		right[:len(right)-1]: api.ErrTorn, right[:5]: api.ErrTorn, string(turned): api.ErrBad, letters(50): api.ErrBad,
		"": api.ErrForm, right + framed("more"): api.ErrForm, framed(""): api.ErrForm,
	}
}

// P12.1: a man that is spoilt: Load's error, and nothing is done; files that are none of the store's stay.
func TestOpenSpoiltMan(t *testing.T) {
	p := plainOf("s")
	p.apply(pair("a", "1"))
	p.flush()
	wrong := spoilt(manOf(p.man))
	for _, m := range []api.Man{{}, {Wal: 2, Next: 2}, {Wal: 1, Runs: []uint64{1}, Next: 3}, {Wal: 1, Next: mostMan + 1}} {
		wrong[manOf(m)] = api.ErrForm
	}
	for text, want := range wrong {
		files := p.files()
		files["s.man"] = text
		files["s.man.new"], files["s.wal.000000000009"] = "stray", "stray"
		d := laid(t, files)
		fine(t, d.Append("loose", "x"))
		same(t, d, func() { refused(t, d, "s", want) })
		still(t, d, func() { refused(t, d, "s", api.ErrDown) })
	}
}

// P12.1: a run that is spoilt, or not there, at each place: its error, behind what is removed, and ahead of those of the runs behind it and of the wal; the disk is as it was besides.
func TestOpenSpoiltRun(t *testing.T) {
	p := plainOf("s")
	for i := range 3 {
		p.apply(pair("a", fmt.Sprint(i)), pair("b", ""))
		p.flush()
	}
	p.apply(pair("c", "3"))
	for i, r := range p.runs {
		name := runFile("s", p.man.Runs[i])
		wrong := spoilt(runOf(sorted(r)...))
		wrong[runOf(pair("b", ""), pair("a", ""))] = api.ErrForm
		wrong["none"] = api.ErrNone
		for text, want := range wrong {
			files := p.files()
			files[walFile("s", p.man.Wal)] = letters(40)
			for _, n := range p.man.Runs[i+1:] {
				files[runFile("s", n)] = letters(41)
				if want == api.ErrBad {
					delete(files, runFile("s", n))
				}
			}
			files[name] = text
			if want == api.ErrNone {
				delete(files, name)
			}
			d := laid(t, files)
			same(t, d, func() { refused(t, d, "s", want) })
			fine(t, d.Append("s.run.000000000001", "stray"), d.Sync())
			burns(t, d, 2, func() { refused(t, d, "s", want) })
			hasFiles(t, d, files)
		}
	}
}

// P12.1: a wal that is spoilt: ErrBad, and the disk is as it was.
func TestOpenSpoiltWal(t *testing.T) {
	p := plainOf("s")
	p.apply(pair("a", "1"))
	p.apply(pair("b", "2"))
	right := framed(p.records...)
	for _, text := range []string{letters(60), right[:20] + "x" + right[21:], right + letters(12), "x" + right} {
		files := p.files()
		files[walFile("s", 1)] = text
		d := laid(t, files)
		same(t, d, func() { refused(t, d, "s", api.ErrBad) })
	}
}

// P12.1: a wal whose end is torn off, at each place: what is whole is there, whole batches, and the file is cut, for good.
func TestOpenTornWal(t *testing.T) {
	lists := [][]api.Pair{{pair("a", "1"), pair("b", "2")}, {gone("a")}, {pair("c", ""), pair("a", "3"), pair("d", "4")}}
	whole := plainOf("s")
	for _, l := range lists {
		whole.apply(l...)
	}
	text := framed(whole.records...)
	for n := range len(text) + 1 {
		p := plainOf("s")
		for _, l := range lists {
			if len(framed(p.records...))+len(framed(batchOf(l...))) > n {
				break
			}
			p.apply(l...)
		}
		files := p.files()
		files[walFile("s", 1)] = text[:n]
		d := laid(t, files)
		k := opened(t, d, "s")
		want := p.files()
		want[walFile("s", 1)] = framed(p.records...)
		hasFiles(t, d, want)
		fine(t, k.Apply([]api.Pair{pair("z", "9")}))
		p.apply(pair("z", "9"))
		p.is(t, d, k)
	}
}

// noBatches has records that are no batches.
func noBatches() []string {
	a, b := pair("a", "1"), gone("bc")
	right := batchOf(a, b)
	var l []string
	for n := range right {
		l = append(l, right[:n])
	}
	l = append(l, right+"\x00", right+"x", right+right, batchOf()+"x", right+textOf(a))
	for n := range 300 {
		if n != 2 {
			l = append(l, number(n, 2)+right[2:])
		}
	}
	l = append(l, "\xff\xff"+right[2:], "\x02\x01"+right[2:], number(1<<15, 2)+right[2:])
	for mark := 2; mark < 256; mark++ {
		l = append(l, number(1, 2)+number(mark, 1)+textOf(pair("k", ""))[1:], number(2, 2)+textOf(a)+number(mark, 1)+textOf(b)[1:])
	}
	for _, p := range wrongPairs() {
		l = append(l, batchOf(p), batchOf(p, a), batchOf(a, p), batchOf(a, p, b))
	}
	return append(l, "any text", letters(100), strings.Repeat("\x00", 2)+"\x00", number(1, 2)+number(0, 1)+number(1, 2)+"\xff\xff\xffa", number(1, 2)+number(0, 1)+"\xff\xff"+number(0, 3)+"a")
}

// P12.1: a record that is no batch, at each place among others: ErrForm, and the disk is as it was.
func TestOpenNoBatch(t *testing.T) {
	a := batchOf(pair("a", "1"))
	man := manOf(api.Man{Wal: 1, Next: 2})
	for _, s := range noBatches() {
		for _, l := range [][]string{{s}, {s, a}, {a, s}, {a, s, a}} {
			d := laid(t, map[string]string{"s.man": man, "s.wal.000000000001": framed(l...)})
			same(t, d, func() { refused(t, d, "s", api.ErrForm) })
		}
	}
	// What is torn off is cut ahead of that, and what is none of the store's is removed.
	d := laid(t, map[string]string{"s.man": man, "s.wal.000000000001": framed("") + "torn", "s.man.new": "stray"})
	refused(t, d, "s", api.ErrForm)
	hasFiles(t, d, map[string]string{"s.man": man, "s.wal.000000000001": framed("")})
}

// P12.1: records that are batches, of all kinds, put in order; also such as no Apply makes: of no pairs, and of more than MaxBatch.
func TestOpenBatches(t *testing.T) {
	many := make([]api.Pair, api.MaxBatch+1)
	for i := range many {
		many[i] = pair(fmt.Sprint(i), fmt.Sprint(i))
	}
	p := plainOf("s")
	for _, l := range [][]api.Pair{{pair("a", "1"), gone("a"), pair("b", "2")}, many, {gone("b"), pair("a", "3")}, {pair(letters(512), letters(1<<18))}, {gone(letters(512))}} {
		p.apply(l...)
		p.records = append(p.records, batchOf())
		d := laid(t, p.files())
		p.is(t, d, opened(t, d, "s"))
	}
}

// P12.1: stores of several names on one disk, one of which begins as another one does, are no others of each other's kind.
func TestOpenSeveral(t *testing.T) {
	d := fresh(t, room)
	names := []string{"s", "s.man", "s.wal.000000000001", "s.run.00000000000", "s.s", "ss", "s.man.new", "s.wal", "-"}
	all := map[string]string{}
	for i, name := range names {
		k, p := opened(t, d, name), plainOf(name)
		for j := range i + 1 {
			l := []api.Pair{pair(fmt.Sprint(j), name)}
			fine(t, k.Apply(l))
			p.apply(l...)
			if j%3 == 1 {
				fine(t, k.Flush())
				p.flush()
			}
		}
		maps.Copy(all, p.files())
		hasFiles(t, d, all)
	}
	for i, name := range names {
		k := opened(t, d, name)
		var want []api.Pair
		for j := range i + 1 {
			want = append(want, pair(fmt.Sprint(j), name))
		}
		scans(t, k, "", "", 99, want...)
	}
	hasFiles(t, d, all)
}

// P12.1: what an Open of a disk with little room does: it needs none where the man is there.
func TestOpenFullDisk(t *testing.T) {
	d, k, p := madeOf(t, []api.Pair{pair("a", "1")}, []api.Pair{pair("b", "2")})
	fine(t, d.Append("s.man.new", "stray"), d.Sync(), d.Room(0))
	burns(t, d, 2, func() { p.reads(t, opened(t, d, "s")) })
	p.is(t, d, k)
	var none *disk.Disk
	refused(t, none, "s", api.ErrNil)
}
