package key_test

import (
	"math"
	"slices"
	"strings"
	"testing"

	"fascicle/api"
	"fascicle/key"
)

const (
	minusZero = 0x8000000000000000
	infinite  = 0x7ff0000000000000
	below     = 0xfff0000000000000 // the infinite one below 0
	nan       = 0x7ff8000000000001
)

// pair is a value, and its key.
type pair struct {
	v api.Value
	s string
}

func null() api.Value { return api.Value{} }

func truth(n int64) api.Value { return api.Value{Kind: 1, Int: n} }

func num(n int64) api.Value { return api.Value{Kind: 2, Int: n} }

func point(bits uint64) api.Value { return api.Value{Kind: 3, Real: bits} }

func bytes(s string) api.Value { return api.Value{Kind: 4, Text: s} }

func text(s string) api.Value { return api.Value{Kind: 5, Text: s} }

func repeat(s string, n int) string { return strings.Repeat(s, n) }

// numbers has values of the kinds that have no text, at their edges, and their keys, written out.
func numbers() []pair {
	return []pair{
		{null(), "\x01"},
		{truth(0), "\x02\x00"},
		{truth(1), "\x02\x01"},
		{num(math.MinInt64), "\x03\x00\x00\x00\x00\x00\x00\x00\x00"},
		{num(math.MinInt64 + 1), "\x03\x00\x00\x00\x00\x00\x00\x00\x01"},
		{num(-256), "\x03\x7f\xff\xff\xff\xff\xff\xff\x00"},
		{num(-2), "\x03\x7f\xff\xff\xff\xff\xff\xff\xfe"},
		{num(-1), "\x03\x7f\xff\xff\xff\xff\xff\xff\xff"},
		{num(0), "\x03\x80\x00\x00\x00\x00\x00\x00\x00"},
		{num(1), "\x03\x80\x00\x00\x00\x00\x00\x00\x01"},
		{num(255), "\x03\x80\x00\x00\x00\x00\x00\x00\xff"},
		{num(256), "\x03\x80\x00\x00\x00\x00\x00\x01\x00"},
		{num(1 << 32), "\x03\x80\x00\x00\x01\x00\x00\x00\x00"},
		{num(0x0102030405060708), "\x03\x81\x02\x03\x04\x05\x06\x07\x08"},
		{num(math.MaxInt64), "\x03\xff\xff\xff\xff\xff\xff\xff\xff"},
		{point(below), "\x04\x00\x0f\xff\xff\xff\xff\xff\xff"},
		{point(below - 1), "\x04\x00\x10\x00\x00\x00\x00\x00\x00"},
		{point(0xbff0000000000000), "\x04\x40\x0f\xff\xff\xff\xff\xff\xff"}, // -1
		{point(minusZero + 1), "\x04\x7f\xff\xff\xff\xff\xff\xff\xfe"},
		{point(minusZero), "\x04\x7f\xff\xff\xff\xff\xff\xff\xff"},
		{point(0), "\x04\x80\x00\x00\x00\x00\x00\x00\x00"},
		{point(1), "\x04\x80\x00\x00\x00\x00\x00\x00\x01"},
		{point(0x3ff0000000000000), "\x04\xbf\xf0\x00\x00\x00\x00\x00\x00"}, // 1
		{point(infinite - 1), "\x04\xff\xef\xff\xff\xff\xff\xff\xff"},
		{point(infinite), "\x04\xff\xf0\x00\x00\x00\x00\x00\x00"},
		{point(nan), "\x04\xff\xf8\x00\x00\x00\x00\x00\x01"},
	}
}

// texts has texts that may be of both kinds, and what stands behind the kind in their keys, written out.
func texts() [][2]string {
	return [][2]string{
		{"", "\x00\x01"},
		{"\x00", "\x00\xff\x00\x01"},
		{"\x00\x00", "\x00\xff\x00\xff\x00\x01"},
		{"\x00\x01", "\x00\xff\x01\x00\x01"},
		{"\x00\x01\x02", "\x00\xff\x01\x02\x00\x01"},
		{"\x01", "\x01\x00\x01"},
		{"\x01\x00", "\x01\x00\xff\x00\x01"},
		{"\x02", "\x02\x00\x01"},
		{"a", "a\x00\x01"},
		{"a\x00", "a\x00\xff\x00\x01"},
		{"a\x00\x00", "a\x00\xff\x00\xff\x00\x01"},
		{"a\x00b", "a\x00\xffb\x00\x01"},
		{"a\x01", "a\x01\x00\x01"},
		{"ab", "ab\x00\x01"},
		{"\u00e9", "\xc3\xa9\x00\x01"},
		{"\u20ac\x00\U0001f600", "\xe2\x82\xac\x00\xff\xf0\x9f\x98\x80\x00\x01"},
		{repeat("a", 99), repeat("a", 99) + "\x00\x01"},
		{repeat("a", 100), repeat("a", 100) + "\x00\x01"},
		{repeat("\x00", 100), repeat("\x00\xff", 100) + "\x00\x01"},
		{repeat("\u20ac", 33) + "\x00", repeat("\u20ac", 33) + "\x00\xff\x00\x01"},
	}
}

// loose has texts that may be of KindBytes alone, as they are not valid UTF-8, and what stands behind the kind in their keys.
func loose() [][2]string {
	return [][2]string{
		{"\xff", "\xff\x00\x01"},
		{"\xff\xff", "\xff\xff\x00\x01"},
		{"\x00\xff", "\x00\xff\xff\x00\x01"},
		{"\xff\x00", "\xff\x00\xff\x00\x01"},
		{"\x00\xff\x00", "\x00\xff\xff\x00\xff\x00\x01"},
		{"\x00\x00\xff\xff\x00\x00", "\x00\xff\x00\xff\xff\xff\x00\xff\x00\xff\x00\x01"},
		{"\xfe", "\xfe\x00\x01"},
		{"\x80", "\x80\x00\x01"},
		{"a\xc3", "a\xc3\x00\x01"},
		{"\xc3\x00\xa9", "\xc3\x00\xff\xa9\x00\x01"},
		{"\xed\xa0\x80", "\xed\xa0\x80\x00\x01"},
		{"\xc0\x80", "\xc0\x80\x00\x01"},
		{repeat("\xff", 100), repeat("\xff", 100) + "\x00\x01"},
		{repeat("a", 99) + "\xc3", repeat("a", 99) + "\xc3\x00\x01"},
	}
}

// pairs has values of all kinds, at their edges, and their keys.
func pairs() []pair {
	l := numbers()
	for _, x := range append(texts(), loose()...) {
		l = append(l, pair{bytes(x[0]), "\x05" + x[1]})
	}
	for _, x := range texts() {
		l = append(l, pair{text(x[0]), "\x06" + x[1]})
	}
	return l
}

// nanBits has bits of NaN that are not canonical.
func nanBits() []uint64 {
	return []uint64{0x7ff0000000000001, 0x7ff8000000000000, 0x7ff8000000000002, 0x7fffffffffffffff, 0xfff0000000000001, 0xfff8000000000001, 0xffffffffffffffff}
}

// bad has values that may not be, of each kind, and of none.
func bad() []api.Value {
	l := []api.Value{{Kind: 6}, {Kind: 7}, {Kind: 254}, {Kind: 255}, {Kind: 0, Int: 1}, {Kind: 0, Real: 1}, {Kind: 0, Text: "a"},
		{Kind: 1, Int: 2}, {Kind: 1, Int: -1}, {Kind: 1, Int: 256}, {Kind: 1, Int: 257}, {Kind: 1, Real: 1}, {Kind: 1, Int: 1, Text: "a"},
		{Kind: 2, Real: 1}, {Kind: 2, Int: 1, Text: "a"}, {Kind: 3, Int: 1}, {Kind: 3, Text: "a"},
		{Kind: 4, Int: 1, Text: "a"}, {Kind: 4, Real: 1}, {Kind: 5, Int: 1}, {Kind: 5, Real: 1, Text: "a"}}
	for _, bits := range nanBits() {
		l = append(l, point(bits))
	}
	for _, x := range loose() {
		l = append(l, text(x[0]))
	}
	for _, s := range []string{repeat("a", 101), repeat("\x00", 101), repeat("\xff", 101), repeat("\u00e9", 51), repeat("a", 256), repeat("a", 100000)} {
		l = append(l, bytes(s), text(s))
	}
	return l
}

// row has n pairs, of all kinds: their values, and each one's key.
func row(n, seed int) ([]api.Value, []string) {
	all := pairs()
	var l []api.Value
	var keys []string
	for i := range n {
		p := all[(seed+i*17)%len(all)]
		l, keys = append(l, p.v), append(keys, p.s)
	}
	return l, keys
}

// puts asks that Put answers want of l, and leaves l as it is.
func puts(t *testing.T, l []api.Value, want string) {
	t.Helper()
	kept := slices.Clone(l)
	if s, e := key.Put(l...); s != want || e != api.OK {
		t.Errorf("Put(%#v): %q %v, not %q", l, s, e, want)
	}
	if !slices.Equal(l, kept) {
		t.Errorf("Put changed %#v to %#v", kept, l)
	}
}

// putFails asks that Put answers ErrArg, and no key.
func putFails(t *testing.T, l ...api.Value) {
	t.Helper()
	if s, e := key.Put(l...); s != "" || e != api.ErrArg {
		t.Errorf("Put of %d values, the first ones %#v: %q %v", len(l), l[:min(len(l), 9)], s, e)
	}
}

// P6.1: no value.
func TestPutNone(t *testing.T) {
	if s, e := key.Put(); s != "" || e != api.OK {
		t.Errorf("Put(): %q %v", s, e)
	}
	puts(t, nil, "")
	puts(t, []api.Value{}, "")
}

// P6.1: each kind, at its edges.
func TestPut(t *testing.T) {
	for _, p := range pairs() {
		if s, e := key.Put(p.v); s != p.s || e != api.OK {
			t.Errorf("Put(%#v): %q %v, not %q", p.v, s, e, p.s)
		}
	}
}

// P6.1: each byte of a text alone, and beside others; texts of each length, and beyond the limit.
func TestPutText(t *testing.T) {
	for b := range 256 {
		one := string([]byte{byte(b)})
		told := one
		if b == 0 {
			told = "\x00\xff"
		}
		puts(t, []api.Value{bytes(one)}, "\x05"+told+"\x00\x01")
		puts(t, []api.Value{bytes("\xff" + one + one + "\x01")}, "\x05\xff"+told+told+"\x01\x00\x01")
		if b < 128 {
			puts(t, []api.Value{text("a" + one + "b")}, "\x06a"+told+"b\x00\x01")
		}
	}
	for n := range 260 {
		if n > 100 {
			putFails(t, bytes(repeat("\x00", n)))
			putFails(t, text(repeat("\x00", n)))
			continue
		}
		puts(t, []api.Value{bytes(repeat("\x00", n))}, "\x05"+repeat("\x00\xff", n)+"\x00\x01")
		puts(t, []api.Value{text(repeat("a", n))}, "\x06"+repeat("a", n)+"\x00\x01")
	}
}

// P6.1: rows of 0 to 8 values, and of more.
func TestPutRow(t *testing.T) {
	for seed := range len(pairs()) {
		for n := range 12 {
			l, keys := row(n, seed)
			if n > 8 {
				putFails(t, l...)
				continue
			}
			puts(t, l, strings.Join(keys, ""))
		}
	}
	for _, n := range []int{9, 256, 257, 264, 1 << 16} {
		putFails(t, make([]api.Value, n)...)
	}
	puts(t, make([]api.Value, 8), repeat("\x01", 8))
	puts(t, slices.Repeat([]api.Value{bytes(repeat("\x00", 100))}, 8), repeat("\x05"+repeat("\x00\xff", 100)+"\x00\x01", 8))
}

// P6.1: a value that may not be, at each place of a row, and in one that is too long.
func TestPutWrong(t *testing.T) {
	for _, v := range bad() {
		for n := 1; n <= 9; n++ {
			for at := range n {
				l, _ := row(n, n+at)
				l[at] = v
				putFails(t, l...)
			}
		}
	}
}

// P6.1: values that lie ahead of a list, and behind its end, are not put.
func TestPutPiece(t *testing.T) {
	l, keys := row(3, 30)
	more := slices.Concat([]api.Value{{Kind: 9}}, l, []api.Value{num(1), {Kind: 9}})
	puts(t, more[1:4], strings.Join(keys, ""))
	puts(t, more[2:2], "")
}

// The chapter's examples.
func TestExamples(t *testing.T) {
	for _, p := range []pair{
		{null(), string([]byte{1})},
		{truth(1), string([]byte{2, 1})},
		{num(-1), string([]byte{3, 127, 255, 255, 255, 255, 255, 255, 255})},
		{num(0), string([]byte{3, 128, 0, 0, 0, 0, 0, 0, 0})},
		{bytes(string([]byte{97, 0})), string([]byte{5, 97, 0, 255, 0, 1})},
	} {
		puts(t, []api.Value{p.v}, p.s)
		gets(t, p.s, []api.Value{p.v})
	}
	if s, is := key.After(string([]byte{97, 255})); s != string([]byte{98}) || !is {
		t.Errorf("After of 97 255: %q %t", s, is)
	}
}
