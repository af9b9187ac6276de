package mem_test

import (
	"bytes"
	"math"
	"math/rand"
	"slices"
	"strings"
	"testing"

	"fascicle/api"
	"fascicle/mem"
)

// within has those of l whose keys are within from and to, the first most of them, as the chapter's words say.
func within(l []api.Pair, from, to string, most int) []api.Pair {
	var is []api.Pair
	for _, p := range l {
		ahead := bytes.Compare([]byte(p.Key), []byte(from)) < 0
		if !ahead && (to == "" || bytes.Compare([]byte(p.Key), []byte(to)) < 0) && len(is) < most {
			is = append(is, p)
		}
	}
	return is
}

// inOrder has l as its keys stand in order, byte by byte.
func inOrder(l []api.Pair) []api.Pair {
	l = slices.Clone(l)
	slices.SortFunc(l, func(p, q api.Pair) int { return bytes.Compare([]byte(p.Key), []byte(q.Key)) })
	return l
}

// mosts has how many pairs may be wanted of n, at each edge.
func mosts(n int) []int {
	return []int{math.MinInt, math.MinInt + 1, -n, -1, 0, 1, 2, n - 1, n, n + 1, 1 << 32, math.MaxInt - 1, math.MaxInt}
}

// longKey is a key of as many bytes as there may be.
var longKey = strings.Repeat("m", api.MaxKey)

// lists has pairs, with keys that are beginnings of one another, and ones with bytes 0 and 255, in some order.
func lists() [][]api.Pair {
	return [][]api.Pair{
		nil,
		{pair("a", "1")},
		{gone("a")},
		{pair("b", ""), gone("a")},
		{gone("b"), gone("a"), pair("c", "3"), gone("d")},
		{pair("aaa", "3"), pair("a", "1"), pair("aaaa", "4"), gone("aa"), pair("ab", "5"), pair("b", "6")},
		{pair("a\x00", "2"), pair("a", "1"), pair("a\x00\x00", "3"), pair("a\x00\xff", "4"), pair("a\x01", "5"), pair("a\xff", "6"), pair("a\xff\x00", "7"), pair("a\xff\xff", "8"), pair("b", "9")},
		{pair("\xff", "4"), pair("\x00", "1"), pair("\xff\xff", "6"), pair("\x00\x00", "2"), gone("\xff\x00"), gone("\x00\xff"), pair("\x7f", "x"), pair("\x80", "y")},
		{pair("ä", "1"), pair("z", "2"), pair("Z", "3"), pair("\xe4", "4"), pair("日本", "5"), pair("日", "6"), pair("\xed\xa0\x80", "7"), pair(" ", "8"), pair("\t", "9")},
		{pair(longKey, "1"), pair(longKey[1:], "2"), gone(longKey[1:] + "n"), gone(longKey[1:] + "l"), pair("m", ""), pair("n", ""), pair("l", "")},
	}
}

// bounds has texts about the keys of l: each one, what is next to it on both sides, what is ahead of all and behind all, and ones longer than keys may be.
func bounds(l []api.Pair) []string {
	all := []string{"", "\x00", "\xff", "a", "ab", "\x00\x00\x00", "\xff\xff\xff", strings.Repeat("\xff", api.MaxKey+1), strings.Repeat("\x00", api.MaxKey+1)}
	for _, p := range l {
		all = append(all, p.Key, p.Key+"\x00", p.Key+"\xff", p.Key[:len(p.Key)-1])
	}
	slices.Sort(all)
	return slices.Compact(all)
}

// P9.2: Scan of each two bounds, of as many as are there, fewer, more and none.
func TestScan(t *testing.T) {
	for _, l := range lists() {
		m, want := laid(t, l...), inOrder(l)
		holds(t, m, want...)
		for _, from := range bounds(l) {
			for _, to := range bounds(l) {
				all := within(want, from, to, len(l))
				for _, most := range append(mosts(len(all)), mosts(len(l))...) {
					scans(t, m, from, to, most, within(want, from, to, most)...)
				}
			}
		}
		holds(t, m, want...)
	}
}

// P9.2: some bounds that are written out.
func TestScanBounds(t *testing.T) {
	a, b, c := pair("a", "1"), gone("b"), pair("c", "3")
	m := laid(t, c, a, b)
	for _, x := range []struct {
		from, to string
		most     int
		want     []api.Pair
	}{
		{"", "", 9, []api.Pair{a, b, c}},
		{"", "", 3, []api.Pair{a, b, c}},
		{"", "", 2, []api.Pair{a, b}},
		{"", "", 1, []api.Pair{a}},
		{"", "", 0, nil},
		{"", "", -1, nil},
		{"", "", math.MinInt, nil},
		{"", "", math.MaxInt, []api.Pair{a, b, c}},
		{"a", "c", 9, []api.Pair{a, b}},
		{"a\x00", "c\x00", 9, []api.Pair{b, c}},
		{"a\x00", "c\x00", 1, []api.Pair{b}},
		{"", "a", 9, nil},
		{"", "a\x00", 9, []api.Pair{a}},
		{"c", "", 9, []api.Pair{c}},
		{"c\x00", "", 9, nil},
		{"b", "b", 9, nil},
		{"b", "b\x00", 9, []api.Pair{b}},
		{"c", "a", 9, nil},
		{"d", "b", 9, nil},
		{"b", "\x00", 9, nil},
		{"\x00", "\xff", 9, []api.Pair{a, b, c}},
	} {
		scans(t, m, x.from, x.to, x.most, x.want...)
	}
}

// P9.2: keys stand in order, whichever of them comes first: all orders of some of them.
func TestEachOrder(t *testing.T) {
	l := []api.Pair{pair("a", "1"), gone("a\x00"), pair("a\x00\xff", "3"), pair("aa", "4"), pair("a\xff", "5"), gone("b"), pair("b\x00", "7")}
	want := inOrder(l)
	var each func(n int)
	each = func(n int) {
		if n == len(l) {
			holds(t, laid(t, l...), want...)
			return
		}
		for i := n; i < len(l); i++ {
			l[n], l[i] = l[i], l[n]
			each(n + 1)
			l[n], l[i] = l[i], l[n]
		}
	}
	each(0)
}

// goesOn fails the test unless scans of n pairs at a time, each of which goes on behind the last key of the one ahead of it, are the whole.
func goesOn(t *testing.T, m *mem.Mem, from, to string, n int, whole []api.Pair) {
	t.Helper()
	var all []api.Pair
	for at := from; ; {
		l := m.Scan(at, to, n)
		if len(l) > n {
			t.Fatalf("Scan of %d: %s", n, shown(l...))
		}
		if all = append(all, l...); len(l) == 0 || len(all) > len(whole) {
			break
		}
		// The next text behind a key, though it may be longer than a key may be.
		at = l[len(l)-1].Key + "\x00"
	}
	if !slices.Equal(all, whole) {
		t.Fatalf("Scan from %s to %s, %d at a time: %s, not %s", short(from), short(to), n, shown(all...), shown(whole...))
	}
}

// P9.3: a scan that is gone on with, some pairs at a time, is the whole; so are one up to a bound and one from it on, wherever it stands.
func TestScanCut(t *testing.T) {
	for _, l := range lists() {
		m := laid(t, l...)
		all := bounds(l)
		for i, from := range all {
			for _, to := range append(all[i:], "") {
				whole := m.Scan(from, to, math.MaxInt)
				for n := 1; n <= len(whole)+1; n++ {
					goesOn(t, m, from, to, n, whole)
				}
				for _, cut := range all[i:] {
					// To an empty bound is to the end: it is none to be cut at.
					if cut == "" || to != "" && cut > to {
						continue
					}
					if got := slices.Concat(m.Scan(from, cut, len(l)), m.Scan(cut, to, len(l))); !slices.Equal(got, whole) {
						t.Fatalf("Scan from %s to %s, cut at %s: %s, not %s", short(from), short(to), short(cut), shown(got...), shown(whole...))
					}
				}
			}
		}
	}
}

// P9.3: scans of many pairs, cut and gone on with.
func TestScanCutMany(t *testing.T) {
	r := rand.New(rand.NewSource(2))
	var l []api.Pair
	for i := range 1000 {
		l = append(l, pair(string([]byte{'k', byte(i >> 8), byte(i)}), string([]byte{byte(i)})))
	}
	want := slices.Clone(l)
	r.Shuffle(len(l), func(i, j int) { l[i], l[j] = l[j], l[i] })
	m := laid(t, l...)
	for _, n := range []int{1, 2, 3, 7, 64, 499, 500, 999, 1000, 1001} {
		goesOn(t, m, "", "", n, want)
		goesOn(t, m, want[17].Key, want[901].Key, n, want[17:901])
	}
}

// P9.2, R5: what is done to a list that was answered is not seen in the mem, nor in another answer; what is done to the mem is not seen in the list.
func TestScanNew(t *testing.T) {
	for _, l := range lists() {
		m, want := laid(t, l...), inOrder(l)
		for n := range len(l) + 1 {
			one, two := m.Scan("", "", n), m.Scan("", "", n)
			for i := range one {
				one[i] = pair("other", "one")
			}
			_ = append(one[:0], pair("z", "z"))
			_ = append(one, pair("more", "of it"), pair("and", "more"))
			if !slices.Equal(two, want[:n]) {
				t.Fatalf("%s, not %s", shown(two...), shown(want[:n]...))
			}
			holds(t, m, want...)
			three := m.Scan("", "", n)
			for _, p := range want {
				puts(t, m, pair(p.Key, "changed"))
			}
			puts(t, m, pair("\x00new", "1"), pair("new", "2"), pair("\xffnew", "3"))
			m.Clear()
			puts(t, m, l...)
			if !slices.Equal(two, want[:n]) || !slices.Equal(three, want[:n]) {
				t.Fatalf("%s and %s, not %s", shown(two...), shown(three...), shown(want[:n]...))
			}
		}
	}
}
