package code_test

import (
	"math/rand"
	"slices"
	"strings"
	"testing"

	"fascicle/api"
	"fascicle/code"
	"fascicle/value"
)

// spoilt changes some bytes of s, cuts it, or lays some behind it.
func spoilt(r *rand.Rand, s string) string {
	l := []byte(s)
	for range r.Intn(3) {
		if len(l) > 0 {
			l[r.Intn(len(l))] = byte(r.Intn(256) >> r.Intn(8))
		}
	}
	if r.Intn(3) == 0 {
		l = l[:r.Intn(len(l)+1)]
	}
	for range r.Intn(3) {
		l = append(l, byte(r.Intn(256)))
	}
	return string(l)
}

// P5.3: of any bytes what is got may be, and is put as the bytes that it was got of; an error leaves nothing.
func TestGotIsPut(t *testing.T) {
	r := rand.New(rand.NewSource(5))
	all := pairs()
	for range 200000 {
		s := spoilt(r, all[r.Intn(len(all))].s)
		v, n, e := code.Get(s)
		if e != api.OK {
			if v != (api.Value{}) || n != 0 || (e != api.ErrEnd && e != api.ErrForm) {
				t.Fatalf("Get(%q): %#v %d %v", s, v, n, e)
			}
			continue
		}
		if put, f := code.Put(v); value.Check(v) != api.OK || f != api.OK || n > len(s) || put != s[:n] {
			t.Fatalf("Get(%q): %#v %d, put as %q %v", s, v, n, put, f)
		}
	}
	for range 100000 {
		_, whole := row(1 + r.Intn(8))
		s := spoilt(r, whole)
		l, n, e := code.GetRow(s)
		if e != api.OK {
			if len(l) != 0 || n != 0 || (e != api.ErrEnd && e != api.ErrForm) {
				t.Fatalf("GetRow(%q): %#v %d %v", s, l, n, e)
			}
			continue
		}
		if put, f := code.PutRow(l); value.Row(l) != api.OK || f != api.OK || n > len(s) || put != s[:n] {
			t.Fatalf("GetRow(%q): %#v %d, put as %q %v", s, l, n, put, f)
		}
	}
}

// P5.2: where bytes are wanting some bytes behind them make a value of them; where they are none, none do.
func TestWantingOrNone(t *testing.T) {
	r := rand.New(rand.NewSource(6))
	all := pairs()
	for range 100000 {
		s := spoilt(r, all[r.Intn(len(all))].s)
		_, _, e := code.Get(s)
		if e == api.OK {
			continue
		}
		if made := completes(s); made != (e == api.ErrEnd) {
			t.Fatalf("Get(%q): %v, though %t", s, e, made)
		}
	}
}

// completes tells whether an end makes a value of s: of these letters' ends one does, if any does.
func completes(s string) bool {
	letters := []string{"", "\x80", "\xbf", "\xa0", "\x90", "\x80\x80", "\xbf\xbf", "\xa0\x80", "\x90\x80", "\x80\x80\x80", "\x90\x80\x80"}
	for _, l := range letters {
		// The bytes of 0 are what else may be wanting: a number, the rest of a text.
		if _, n, e := code.Get(s + l + strings.Repeat("\x00", 110)); e == api.OK && n > len(s) {
			return true
		}
	}
	return false
}

// P5.3: a row has at most MaxRowBytes bytes, the longest ones too.
func TestRowBytes(t *testing.T) {
	for _, v := range []api.Value{bytes(strings.Repeat("\xff", 100)), text(strings.Repeat("a", 100)), num(-1), point(nan), {}, {Kind: 1}} {
		for n := 1; n <= 8; n++ {
			s, e := code.PutRow(slices.Repeat([]api.Value{v}, n))
			one, _ := code.Put(v)
			if e != api.OK || len(s) != 1+n*len(one) || len(s) > api.MaxRowBytes {
				t.Errorf("%d values of kind %d: %d bytes, %v", n, v.Kind, len(s), e)
			}
		}
	}
}

// unlike asks that no two of l are the same, and that none begins another one. In order one that begins others stands just ahead of one of them.
func unlike(t *testing.T, l []string) {
	t.Helper()
	slices.Sort(l)
	for i := 1; i < len(l); i++ {
		if strings.HasPrefix(l[i], l[i-1]) {
			t.Errorf("%q begins %q", l[i-1], l[i])
		}
	}
}

// P5.3: unlike values, unlike rows, have unlike bytes, none of which begin the other ones.
func TestNoneBegins(t *testing.T) {
	var values, rows []string
	put := func(l ...api.Value) {
		s, e := code.PutRow(l)
		if e != api.OK {
			t.Errorf("PutRow(%#v): %v", l, e)
		}
		rows = append(rows, s)
	}
	for i, p := range pairs() {
		if slices.IndexFunc(pairs(), func(q pair) bool { return q.v == p.v }) < i {
			continue
		}
		s, _ := code.Put(p.v)
		values = append(values, s)
		put(p.v)
		put(p.v, p.v)
		put(num(77), p.v)
		put(p.v, num(77), api.Value{})
		put(p.v, api.Value{}, num(77), bytes("\x00"))
	}
	unlike(t, values)
	unlike(t, rows)
}
