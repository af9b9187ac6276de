package run_test

import (
	"slices"
	"strings"
	"testing"

	"fascicle/api"
	"fascicle/run"
)

// wrongRuns are texts of frames that are none of a run.
func wrongRuns() map[string][]string {
	a, b, c := textOf(pair("a", "1")), textOf(gone("b")), textOf(pair("c", "3"))
	tooLong := longKey + "m"
	return map[string][]string{
		"no frame":                            nil,
		"a count of no byte":                  {""},
		"a count of 7 bytes":                  {counted(0)[:7]},
		"a count of 9 bytes":                  {counted(0) + "\x00"},
		"a count of 1 byte":                   {"\x01", a},
		"a count of 4 bytes":                  {"\x01\x00\x00\x00", a},
		"no pair of one":                      {counted(1)},
		"a pair of none":                      {counted(0), a},
		"one pair of two":                     {counted(2), a},
		"two pairs of one":                    {counted(1), a, b},
		"two pairs of three":                  {counted(3), a, b},
		"three pairs of two":                  {counted(2), a, b, c},
		"many pairs of all that may be told":  {"\xff\xff\xff\xff\xff\xff\xff\xff", a},
		"none, told as the number ahead of 0": {"\xff\xff\xff\xff\xff\xff\xff\xff"},
		"a count, the highest byte first":     {"\x00\x00\x00\x00\x00\x00\x00\x01", a},
		"a count above 4 bytes":               {"\x01\x00\x00\x00\x01\x00\x00\x00", a},
		"a count with the highest bit":        {"\x01\x00\x00\x00\x00\x00\x00\x80", a},
		"a pair in the place of the count":    {a, b},
		"the count behind the pair":           {a, counted(1)},
		"a count again":                       {counted(2), counted(1), a},

		"keys that fall":                    {counted(2), b, a},
		"keys that fall at the end":         {counted(3), a, c, b},
		"keys that fall at the beginning":   {counted(3), b, a, c},
		"two that are the same":             {counted(2), a, a},
		"one key twice":                     {counted(2), a, textOf(gone("a"))},
		"one key twice at the end":          {counted(3), a, b, textOf(pair("b", "2"))},
		"one key again behind another one":  {counted(3), a, b, a},
		"a beginning behind the whole":      {counted(2), textOf(pair("aa", "")), a},
		"keys that rise as numbers alone":   {counted(2), textOf(pair("\x7f", "")), textOf(pair("\x00\x80", ""))},
		"keys that rise as signed bytes":    {counted(2), textOf(pair("\x80", "")), textOf(pair("\x7f", ""))},
		"a text of no byte":                 {counted(1), ""},
		"a text of a mark alone":            {counted(1), "\x00"},
		"a text without the count's end":    {counted(1), "\x00\x01"},
		"a text of 2 bytes, gone":           {counted(1), "\x01\x01"},
		"no key":                            {counted(1), text(0, 0, "")},
		"no key of one that is gone":        {counted(1), text(1, 0, "")},
		"no key, but a value":               {counted(1), text(0, 0, "1")},
		"no byte of a key of 1":             {counted(1), text(0, 1, "")},
		"no byte of a key of 1, gone":       {counted(1), text(1, 1, "")},
		"a key that is a byte too short":    {counted(1), text(0, 3, "ab")},
		"a key of 256 that is too short":    {counted(1), text(0, 256, "a")},
		"a key of 65535 that is too short":  {counted(1), text(0, 65535, longKey)},
		"a text too short behind right one": {counted(2), a, text(0, 9, "bcdefghi")},
		"a mark of 2":                       {counted(1), text(2, 1, "a")},
		"a mark of 2, with a value":         {counted(1), text(2, 1, "a1")},
		"a mark of 3":                       {counted(1), text(3, 1, "a")},
		"a mark of 128":                     {counted(1), text(128, 1, "a1")},
		"a mark of 129":                     {counted(1), text(129, 1, "a")},
		"a mark of 255":                     {counted(1), text(255, 1, "a")},
		"a mark that is a digit":            {counted(1), text('1', 1, "a")},
		"a wrong mark behind a right one":   {counted(2), a, text(2, 1, "b")},
		"one that is gone, with a value":    {counted(1), text(1, 1, "a1")},
		"a value of one that is gone, late": {counted(3), a, text(1, 1, "b2"), c},
		"a key that is too long":            {counted(1), textOf(pair(tooLong, ""))},
		"a key that is too long, gone":      {counted(1), textOf(gone(tooLong))},
		"a key that is much too long":       {counted(1), textOf(pair(letters(65535), "1"))},
		"a value that is too long":          {counted(1), textOf(pair("a", letters(api.MaxVal+1)))},
		"a value that is much too long":     {counted(1), textOf(pair("a", letters(api.MaxFrame-4)))},
		"a value that is too long, late":    {counted(2), a, textOf(pair("b", letters(api.MaxVal+1)))},
		"key's count, highest byte first":   {counted(1), "\x00\x00\x01a"},
		"another text behind the pairs":     {counted(1), a, ""},
	}
}

// P10.2: files of frames that are no runs: ErrForm, and the disk is as it was.
func TestOpenForm(t *testing.T) {
	for what, l := range wrongRuns() {
		d := laid(t, "r", framed(l...))
		same(t, d, func() {
			if r, e := run.Open(d, "r"); r != nil || e != api.ErrForm {
				t.Errorf("%s: %v, not ErrForm", what, e)
			}
		})
	}
	for _, p := range wrongPairs() {
		if len(p.Key) < 65536 {
			refused(t, laid(t, "r", runOf(p)), "r", api.ErrForm)
			refused(t, laid(t, "r", runOf(pair("\x00", "1"), p)), "r", api.ErrForm)
		}
	}
}

// P10.2: pairs of each mark and of each count of bytes of the key, with texts of each length: those that may be are read, all others are ErrForm.
func TestOpenEach(t *testing.T) {
	for mark := range 256 {
		for _, size := range []int{0, 1, 2, 3, 5, 255, 256, 511, 512, 513, 1 << 15, 65535} {
			for _, n := range []int{0, 1, 2, 3, 4, 257, 511, 512, 513, 600} {
				both := strings.Repeat("k", n)
				d := laid(t, "r", framed(counted(1), text(byte(mark), size, both)))
				if mark > 1 || size == 0 || size > api.MaxKey || size > n || mark == 1 && size < n {
					refused(t, d, "r", api.ErrForm)
					continue
				}
				p := api.Pair{Key: both[:size], Value: both[size:], Gone: mark == 1}
				r := opened(t, d, "r")
				holds(t, r, p)
			}
		}
	}
}

// P10.2: files of any few bytes, all of which are too few.
func TestOpenFew(t *testing.T) {
	refused(t, laid(t, "r", ""), "r", api.ErrForm)
	for n := 1; n < 8; n++ {
		refused(t, laid(t, "r", letters(n)), "r", api.ErrTorn)
		refused(t, laid(t, "r", strings.Repeat("\x00", n)), "r", api.ErrTorn)
	}
	for n := 8; n < 40; n++ {
		refused(t, laid(t, "r", letters(n)), "r", api.ErrBad)
		refused(t, laid(t, "r", strings.Repeat("\x00", n)), "r", api.ErrBad)
	}
}

// P10.2: a run that is cut at each place: ErrTorn amid a frame, ErrForm between two of them, whose count is not right any more.
func TestOpenCut(t *testing.T) {
	for _, l := range [][]api.Pair{nil, {pair("a", "1")}, {pair("a", ""), gone("b"), pair("c", "345")}} {
		ends := map[int]bool{0: true}
		for n := range len(l) + 1 {
			ends[len(runOf(l[:n]...))] = true
		}
		all := runOf(l...)
		for n := range len(all) {
			d := laid(t, "r", all[:n])
			same(t, d, func() {
				if ends[n] {
					refused(t, d, "r", api.ErrForm)
				} else {
					refused(t, d, "r", api.ErrTorn)
				}
			})
			// What is torn is told though what stands ahead of it is of no run.
			if n > 0 && !ends[n] {
				refused(t, laid(t, "r", framed("no count")+all[:n]), "r", api.ErrTorn)
			}
		}
	}
}

// P10.2: bytes behind a run: torn ones, bad ones, and frames that it does not count.
func TestOpenMore(t *testing.T) {
	all := runOf(pair("a", "1"), gone("b"))
	for n := 1; n < 8; n++ {
		refused(t, laid(t, "r", all+letters(n)), "r", api.ErrTorn)
	}
	refused(t, laid(t, "r", all+letters(8)), "r", api.ErrBad)
	refused(t, laid(t, "r", all+all), "r", api.ErrForm)
	refused(t, laid(t, "r", all+framed(textOf(pair("c", "3")))), "r", api.ErrForm)
	refused(t, laid(t, "r", all+framed("")), "r", api.ErrForm)
	refused(t, laid(t, "r", framed("")+all), "r", api.ErrForm)
}

// P10.2: each byte another one: ErrBad, also of a file that is no run besides.
func TestOpenBad(t *testing.T) {
	for _, all := range []string{runOf(pair("a", "1"), gone("b"), pair("c", "")), runOf(pair("b", ""), pair("a", "")), framed("", "x")} {
		for at := range all {
			for _, by := range []byte{1, 2, 0x10, 0x80, 0xff} {
				other := []byte(all)
				other[at] ^= by
				d := laid(t, "r", string(other))
				same(t, d, func() { refused(t, d, "r", api.ErrBad) })
			}
		}
	}
}

// P10.2: the disk's errors of reading.
func TestOpenDisk(t *testing.T) {
	d := laid(t, "r", runOf())
	same(t, d, func() {
		refused(t, d, "none", api.ErrNone)
		refused(t, d, strings.Repeat("r", api.MaxFile), api.ErrNone)
		for _, name := range wrongNames() {
			refused(t, d, name, api.ErrArg)
		}
	})
	fine(t, d.Append("bad", "bad bytes of a file"))
	still(t, d, func() {
		for _, name := range append(wrongNames(), "r", "none", "bad") {
			refused(t, d, name, api.ErrDown)
		}
	})
	opened(t, d, "r")
}

// P10.2: Len and Size of runs of each kind; nothing is done to the disk, and what is loose counts, too.
func TestOpen(t *testing.T) {
	for _, l := range append(lists(), rising(5000)) {
		all := runOf(l...)
		d := fresh(t, api.MaxRoom)
		fine(t, d.Append("r", all[:5]), d.Append("r", all[5:]))
		for range 2 {
			same(t, d, func() {
				r := opened(t, d, "r")
				if r.Len() != len(l) || r.Size() != len(all) {
					t.Fatalf("Len %d, Size %d, not %d, %d", r.Len(), r.Size(), len(l), len(all))
				}
				holds(t, r, l...)
			})
			fine(t, d.Sync())
		}
	}
}

// P10.2: Len and Size are what they were when it was opened, whatever is done to the file and to the disk.
func TestLenStays(t *testing.T) {
	l := rising(9)
	d := fresh(t, 5000)
	r := written(t, d, "r", l...)
	size := r.Size()
	stays := func() {
		t.Helper()
		if r.Len() != 9 || r.Size() != size {
			t.Fatalf("Len %d, Size %d", r.Len(), r.Size())
		}
	}
	for _, do := range []func() api.Errno{
		func() api.Errno { return d.Append("r", "more") },
		func() api.Errno { return d.Truncate("r", 30) },
		func() api.Errno { return d.Remove("r") },
		func() api.Errno { return run.Write(d, "r", l[:3]) },
		func() api.Errno { return d.Rename("r", "s") },
	} {
		fine(t, do())
		stays()
	}
	still(t, d, stays)
	fine(t, d.Crash(0, 0))
	stays()
}

// P10.2: a name that was another file's, and a run that was renamed: what is there counts.
func TestOpenRenamed(t *testing.T) {
	d := fresh(t, 5000)
	fine(t, run.Write(d, "a", []api.Pair{pair("a", "1")}), run.Write(d, "b", []api.Pair{gone("b")}), d.Rename("b", "a"))
	holds(t, opened(t, d, "a"), gone("b"))
	refused(t, d, "b", api.ErrNone)
}

// P10.2: a run put together of frames by hand, with pairs at the limits.
func TestOpenLimits(t *testing.T) {
	l := []api.Pair{pair("a", letters(api.MaxVal)), pair(longKey[1:]+"l", ""), gone(longKey), pair("z"+longKey[1:], letters(api.MaxVal))}
	if !slices.IsSortedFunc(l, func(p, q api.Pair) int { return strings.Compare(p.Key, q.Key) }) {
		t.Fatal("keys don't rise")
	}
	holds(t, opened(t, laid(t, "r", runOf(l...)), "r"), l...)
}
