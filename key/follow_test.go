package key_test

import (
	"math"
	"math/rand"
	"slices"
	"strings"
	"testing"

	"fascicle/api"
	"fascicle/key"
	"fascicle/value"
)

// rising has rows in their order, written out.
func rising() [][]api.Value {
	one := func(v api.Value) []api.Value { return []api.Value{v} }
	return [][]api.Value{
		nil, one(null()), {null(), null()}, {null(), null(), text("z")}, {null(), truth(0)}, {null(), text("")},
		one(truth(0)), {truth(0), null()}, {truth(0), text("\uffff")}, one(truth(1)), {truth(1), truth(0)},
		one(num(math.MinInt64)), {num(math.MinInt64), num(math.MaxInt64)}, one(num(math.MinInt64 + 1)), one(num(-1 << 32)), one(num(-256)), one(num(-255)), one(num(-1)), {num(-1), null()},
		one(num(0)), {num(0), num(-1)}, {num(0), num(0)}, {num(0), num(1)}, {num(0), num(1), num(-5)}, one(num(1)), one(num(255)), one(num(256)), one(num(1 << 32)), one(num(math.MaxInt64)), {num(math.MaxInt64), null()},
		one(point(below)), {point(below), null()}, one(point(below - 1)), one(point(0xbff0000000000000)), one(point(minusZero + 1)), one(point(minusZero)), {point(minusZero), point(nan)},
		one(point(0)), {point(0), point(below)}, one(point(1)), one(point(0x3ff0000000000000)), one(point(infinite - 1)), one(point(infinite)), one(point(nan)), {point(nan), point(nan)},
		one(bytes("")), {bytes(""), null()}, {bytes(""), bytes("")}, {bytes(""), bytes("\xff")}, {bytes(""), text("")},
		one(bytes("\x00")), {bytes("\x00"), null()}, {bytes("\x00"), bytes("")}, {bytes("\x00"), text("z")}, one(bytes("\x00\x00")), {bytes("\x00\x00"), num(1)}, one(bytes("\x00\x01")), one(bytes("\x00\xff")), {bytes("\x00\xff"), null()}, one(bytes("\x00\xff\x00")),
		one(bytes("\x01")), one(bytes("\x01\x00")), one(bytes("a")), {bytes("a"), null()}, {bytes("a"), text("z")}, one(bytes("a\x00")), one(bytes("a\x00\x00")), one(bytes("a\x00\x01")), one(bytes("a\x00b")), one(bytes("a\x01")), one(bytes("aa")), one(bytes("b")),
		one(bytes("\xff")), {bytes("\xff"), null()}, one(bytes("\xff\x00")), one(bytes("\xff\x01")), one(bytes("\xff\xff")),
		one(text("")), {text(""), null()}, {text(""), text("\x00")}, one(text("\x00")), {text("\x00"), null()}, one(text("\x00\x00")), one(text("\x00\x01")), one(text("\x01")), one(text("a")), {text("a"), text("b")}, one(text("a\x00")), one(text("a\x00b")), one(text("ab")), one(text("\u00e9")), one(text("\uffff")), one(text("\U0001f600")),
	}
}

// rows has rows of all kinds, and of lengths from 0 to 8, no two the same.
func rows() [][]api.Value {
	l := rising()
	for _, p := range pairs() {
		l = append(l, []api.Value{p.v}, []api.Value{p.v, p.v}, []api.Value{p.v, bytes("\x00"), p.v}, []api.Value{num(7), p.v}, slices.Repeat([]api.Value{p.v}, 8))
	}
	for _, s := range few(2) {
		l = append(l, []api.Value{bytes(s)}, []api.Value{bytes(s), bytes("\x00")}, []api.Value{num(7), bytes("a" + s)}, []api.Value{bytes(s), null(), num(7)})
	}
	slices.SortFunc(l, func(a, b []api.Value) int {
		switch {
		case value.RowLess(a, b):
			return -1
		case value.RowLess(b, a):
			return 1
		}
		return 0
	})
	return slices.CompactFunc(l, func(a, b []api.Value) bool { return slices.Equal(a, b) })
}

// begins tells whether the values of head are the first ones of l.
func begins(head, l []api.Value) bool {
	return len(head) <= len(l) && slices.Equal(head, l[:len(head)])
}

// keysOf has the keys of rows.
func keysOf(t *testing.T, l [][]api.Value) []string {
	t.Helper()
	var keys []string
	for _, r := range l {
		s, e := key.Put(r...)
		if e != api.OK {
			t.Errorf("Put(%#v): %v", r, e)
		}
		keys = append(keys, s)
	}
	return keys
}

// P6.3: keys stand as rows do, by a list that is written out.
func TestRising(t *testing.T) {
	l := rising()
	keys := keysOf(t, l)
	for i := range l {
		for j := range l {
			if (keys[i] < keys[j]) != (i < j) || (keys[i] == keys[j]) != (i == j) {
				t.Errorf("%#v and %#v: %q and %q", l[i], l[j], keys[i], keys[j])
			}
		}
	}
}

// P6.3: keys stand as layer 4 has the rows, and one begins another one just if the values do, of all pairs.
func TestOrder(t *testing.T) {
	l := rows()
	keys := keysOf(t, l)
	for i := range l {
		for j := range l {
			if (keys[i] < keys[j]) != value.RowLess(l[i], l[j]) || (keys[i] == keys[j]) != value.Same(l[i], l[j]) {
				t.Errorf("%#v and %#v: %q and %q", l[i], l[j], keys[i], keys[j])
			}
			if strings.HasPrefix(keys[j], keys[i]) != begins(l[i], l[j]) {
				t.Errorf("%#v and %#v: whether %q begins %q", l[i], l[j], keys[i], keys[j])
			}
		}
	}
}

// anyValue has a value of any kind, often of few bits.
func anyValue(r *rand.Rand) api.Value {
	n := r.Uint64() >> r.Intn(64)
	if r.Intn(2) == 0 {
		n = ^n
	}
	s := make([]byte, r.Intn(4))
	for i := range s {
		s[i] = "\x00\x01\x02a\xff\x00"[r.Intn(6)]
	}
	switch r.Intn(6) {
	case 0:
		return null()
	case 1:
		return truth(int64(r.Intn(2)))
	case 2:
		return num(int64(n))
	case 3:
		return value.Real(math.Float64frombits(n))
	case 4:
		return bytes(string(s))
	}
	return text(strings.ToValidUTF8(string(s), "b"))
}

// anyRow has a row of at most 8 values.
func anyRow(r *rand.Rand) []api.Value {
	l := make([]api.Value, r.Intn(9))
	for i := range l {
		l[i] = anyValue(r)
	}
	return l
}

// P6.3: any two rows, many of them with the same beginning: their order, which begins which, and what is got.
func TestAnyRows(t *testing.T) {
	r := rand.New(rand.NewSource(6))
	for range 100000 {
		a, b := anyRow(r), anyRow(r)
		copy(b[:r.Intn(len(b)+1)], a)
		x, e := key.Put(a...)
		y, f := key.Put(b...)
		if e != api.OK || f != api.OK {
			t.Fatalf("Put of %#v, of %#v: %v %v", a, b, e, f)
		}
		if (x < y) != value.RowLess(a, b) || (x == y) != value.Same(a, b) || strings.HasPrefix(y, x) != begins(a, b) {
			t.Fatalf("%#v and %#v: %q and %q", a, b, x, y)
		}
		gets(t, x, a)
	}
}

// spoilt changes some bytes of s, takes some away, or lays some in.
func spoilt(r *rand.Rand, s string) string {
	for range 1 + r.Intn(3) {
		at := r.Intn(len(s) + 1)
		tail := s[min(len(s), at+r.Intn(3)):]
		more := make([]byte, r.Intn(3))
		for i := range more {
			more[i] = byte(r.Intn(256) >> r.Intn(8))
		}
		s = s[:at] + string(more) + tail
	}
	return s
}

// P6.1, P6.3: of any bytes, what is got may be, and is put as these; where nothing is got they are no row's key.
func TestGotIsPut(t *testing.T) {
	r := rand.New(rand.NewSource(7))
	for range 200000 {
		s, _ := key.Put(anyRow(r)...)
		s = spoilt(r, s)
		asks(t, s)
		l, e := key.Get(s)
		if e != api.OK {
			continue
		}
		if put, f := key.Put(l...); put != s || f != api.OK {
			t.Fatalf("Get(%q): %#v, put as %q %v", s, l, put, f)
		}
	}
}
