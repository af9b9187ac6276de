package code_test

import (
	"math"
	"slices"
	"strings"
	"testing"

	"fascicle/api"
	"fascicle/code"
)

const (
	minusZero = 0x8000000000000000
	infinite  = 0x7ff0000000000000
	below     = 0xfff0000000000000 // the infinite one below 0
	nan       = 0x7ff8000000000001
)

// pair is a value, and its bytes.
type pair struct {
	v api.Value
	s string
}

func num(n int64) api.Value { return api.Value{Kind: 2, Int: n} }

func point(bits uint64) api.Value { return api.Value{Kind: 3, Real: bits} }

func bytes(s string) api.Value { return api.Value{Kind: 4, Text: s} }

func text(s string) api.Value { return api.Value{Kind: 5, Text: s} }

// valid has texts of at most 100 bytes that are valid UTF-8.
func valid() []string {
	return []string{"", "a", "\x00", "\x7f", "a\x00b", "\u0080", "\u00e9", "\u07ff", "\u0800", "\ud7ff", "\ue000", "\ufffd", "\uffff", "\U00010000", "\U0010ffff",
		"one, \u00e9, \u20ac, \U0001f600", strings.Repeat("a", 99), strings.Repeat("a", 100), strings.Repeat("\ufffd", 33),
		strings.Repeat("\u00e9", 50), strings.Repeat("\u20ac", 33) + "a", strings.Repeat("\U0001f600", 25)}
}

// broken has texts of at most 100 bytes that are not valid UTF-8.
func broken() []string {
	return []string{"\xff", "\xfe", "\x80", "\xbf", "\xc3", "\xe2\x82", "\xe2", "\xf0\x9f\x98", "\xf0\x9f", "\xf0", "a\xff", "\xffa", "a\xffb",
		"\u00e9\xc3", "\u20ac\xe2\x82", "\xc3a", "\xe2\x82a", "\xa9\u00e9", "\ufffd\xff", "\xef\xbf",
		"\xc0\x80", "\xc1\xbf", "\xe0\x80\x80", "\xf0\x80\x80\x80", // longer than need be
		"\xed\xa0\x80", "\xed\xbf\xbf", // halves of pairs
		"\xf4\x90\x80\x80", "\xf5\x80\x80\x80", "\xf8\x88\x80\x80\x80", // behind the last rune
		strings.Repeat("a", 99) + "\xff", strings.Repeat("a", 99) + "\u00e9"[:1], strings.Repeat("a", 98) + "\u20ac"[:2], "\xff" + strings.Repeat("a", 99)}
}

// long has texts of more than 100 bytes, valid UTF-8 and not.
func long() []string {
	return []string{strings.Repeat("a", 101), strings.Repeat("\u00e9", 51), strings.Repeat("a", 255), strings.Repeat("a", 256), strings.Repeat("a", 257), strings.Repeat("a", 100000), strings.Repeat("\xff", 101)}
}

// nanBits has bits of NaN that are not canonical.
func nanBits() []uint64 {
	return []uint64{0x7ff0000000000001, 0x7ff8000000000000, 0x7ff8000000000002, 0x7fffffffffffffff, 0xfff0000000000001, 0xfff8000000000001, 0xffffffffffffffff}
}

// pairs has values of each kind, at its edges, and their bytes, written out.
func pairs() []pair {
	l := []pair{
		{api.Value{}, "\x00"},
		{api.Value{Kind: 1}, "\x01\x00"},
		{api.Value{Kind: 1, Int: 1}, "\x01\x01"},
		{num(0), "\x02\x00\x00\x00\x00\x00\x00\x00\x00"},
		{num(1), "\x02\x01\x00\x00\x00\x00\x00\x00\x00"},
		{num(-1), "\x02\xff\xff\xff\xff\xff\xff\xff\xff"},
		{num(-2), "\x02\xfe\xff\xff\xff\xff\xff\xff\xff"},
		{num(255), "\x02\xff\x00\x00\x00\x00\x00\x00\x00"},
		{num(256), "\x02\x00\x01\x00\x00\x00\x00\x00\x00"},
		{num(1 << 32), "\x02\x00\x00\x00\x00\x01\x00\x00\x00"},
		{num(0x0102030405060708), "\x02\x08\x07\x06\x05\x04\x03\x02\x01"},
		{num(math.MaxInt64), "\x02\xff\xff\xff\xff\xff\xff\xff\x7f"},
		{num(math.MinInt64), "\x02\x00\x00\x00\x00\x00\x00\x00\x80"},
		{num(math.MinInt64 + 1), "\x02\x01\x00\x00\x00\x00\x00\x00\x80"},
		{point(0), "\x03\x00\x00\x00\x00\x00\x00\x00\x00"},
		{point(minusZero), "\x03\x00\x00\x00\x00\x00\x00\x00\x80"},
		{point(1), "\x03\x01\x00\x00\x00\x00\x00\x00\x00"},
		{point(0x3ff0000000000000), "\x03\x00\x00\x00\x00\x00\x00\xf0\x3f"},
		{point(0xc00123456789abcd), "\x03\xcd\xab\x89\x67\x45\x23\x01\xc0"},
		{point(infinite), "\x03\x00\x00\x00\x00\x00\x00\xf0\x7f"},
		{point(below), "\x03\x00\x00\x00\x00\x00\x00\xf0\xff"},
		{point(infinite - 1), "\x03\xff\xff\xff\xff\xff\xff\xef\x7f"},
		{point(nan), "\x03\x01\x00\x00\x00\x00\x00\xf8\x7f"},
		{text("ab"), "\x05\x02ab"},
	}
	for _, s := range append(valid(), broken()...) {
		l = append(l, pair{bytes(s), "\x04" + string([]byte{byte(len(s))}) + s})
	}
	for _, s := range valid() {
		l = append(l, pair{text(s), "\x05" + string([]byte{byte(len(s))}) + s})
	}
	return l
}

// bad has values that may not be, of each kind, and of none.
func bad() []api.Value {
	l := []api.Value{{Kind: 6}, {Kind: 255}, {Kind: 0, Int: 1}, {Kind: 0, Real: 1}, {Kind: 0, Text: "a"},
		{Kind: 1, Int: 2}, {Kind: 1, Int: -1}, {Kind: 1, Int: 256}, {Kind: 1, Real: 1}, {Kind: 1, Int: 1, Text: "a"},
		{Kind: 2, Real: 1}, {Kind: 2, Int: 1, Text: "a"}, {Kind: 3, Int: 1}, {Kind: 3, Text: "a"},
		{Kind: 4, Int: 1, Text: "a"}, {Kind: 4, Real: 1}, {Kind: 5, Int: 1}, {Kind: 5, Real: 1, Text: "a"}}
	for _, bits := range nanBits() {
		l = append(l, point(bits))
	}
	for _, s := range broken() {
		l = append(l, text(s))
	}
	for _, s := range long() {
		l = append(l, bytes(s), text(s))
	}
	return l
}

// row has n pairs, of all kinds: their values, and the bytes of the row of them.
func row(n int) ([]api.Value, string) {
	all := pairs()
	var l []api.Value
	s := string([]byte{byte(n)})
	for i := range n {
		p := all[(i*17+5)%len(all)]
		l, s = append(l, p.v), s+p.s
	}
	return l, s
}

// P5.1: each kind, at its edges.
func TestPut(t *testing.T) {
	for _, p := range pairs() {
		if s, e := code.Put(p.v); s != p.s || e != api.OK {
			t.Errorf("Put(%#v): %q %v, not %q", p.v, s, e, p.s)
		}
	}
}

// P5.1: texts of each length that may be, and beyond.
func TestPutLength(t *testing.T) {
	for n := range 300 {
		for _, x := range []struct {
			v    api.Value
			head byte
		}{{bytes(strings.Repeat("\xff", n)), 4}, {text(strings.Repeat("a", n)), 5}} {
			want, wantErr := string([]byte{x.head, byte(n)})+x.v.Text, api.OK
			if n > 100 {
				want, wantErr = "", api.ErrArg
			}
			if s, e := code.Put(x.v); s != want || e != wantErr {
				t.Errorf("Put of kind %d, %d bytes: %q %v", x.head, n, s, e)
			}
		}
	}
}

// P5.1: values that may not be.
func TestPutWrong(t *testing.T) {
	for _, v := range bad() {
		if s, e := code.Put(v); s != "" || e != api.ErrArg {
			t.Errorf("Put of kind %d: %q %v", v.Kind, s, e)
		}
	}
}

// P5.1: rows of 1 to 8 values; an argument stays as it is.
func TestPutRow(t *testing.T) {
	for n := range 20 {
		l, want := row(n)
		wantErr := api.OK
		if n < 1 || n > 8 {
			want, wantErr = "", api.ErrArg
		}
		kept := slices.Clone(l)
		if s, e := code.PutRow(l); s != want || e != wantErr {
			t.Errorf("PutRow of %d values: %q %v, not %q %v", n, s, e, want, wantErr)
		}
		if !slices.Equal(l, kept) {
			t.Error("PutRow changed its argument")
		}
	}
	for _, l := range [][]api.Value{nil, {}, make([]api.Value, 9), make([]api.Value, 256), make([]api.Value, 257), make([]api.Value, 1<<16+1)} {
		if s, e := code.PutRow(l); s != "" || e != api.ErrArg {
			t.Errorf("PutRow of %d none: %q %v", len(l), s, e)
		}
	}
}

// P5.1: a row of one value, of each kind.
func TestPutRowOne(t *testing.T) {
	for _, p := range pairs() {
		if s, e := code.PutRow([]api.Value{p.v}); s != "\x01"+p.s || e != api.OK {
			t.Errorf("PutRow of %#v: %q %v", p.v, s, e)
		}
	}
}

// P5.1: one value that may not be, wherever it stands.
func TestPutRowWrong(t *testing.T) {
	for n := 1; n <= 8; n++ {
		for at := range n {
			for _, v := range bad() {
				l, _ := row(n)
				l[at] = v
				if s, e := code.PutRow(l); s != "" || e != api.ErrArg {
					t.Errorf("PutRow of %d values, one of kind %d at %d: %q %v", n, v.Kind, at, s, e)
				}
			}
		}
	}
}

// P5.1: values that lie behind the row's end, and ahead of it, are not put.
func TestPutRowPiece(t *testing.T) {
	l, want := row(3)
	more := slices.Concat([]api.Value{{Kind: 9}}, l, []api.Value{num(1), {Kind: 9}})
	if s, e := code.PutRow(more[1:4]); s != want || e != api.OK {
		t.Errorf("PutRow of a piece: %q %v", s, e)
	}
}

// The chapter's examples.
func TestExamples(t *testing.T) {
	for _, p := range []pair{
		{api.Value{}, string([]byte{0})},
		{api.Value{Kind: 1, Int: 1}, string([]byte{1, 1})},
		{num(-2), string([]byte{2, 254, 255, 255, 255, 255, 255, 255, 255})},
		{text("ab"), string([]byte{5, 2, 97, 98})},
	} {
		if s, e := code.Put(p.v); s != p.s || e != api.OK {
			t.Errorf("Put(%#v): %q %v", p.v, s, e)
		}
	}
	if l, n, e := code.GetRow("\x01\x01\x02"); l != nil || n != 0 || e != api.ErrForm {
		t.Errorf("GetRow of 1 1 2: %#v %d %v", l, n, e)
	}
	if l, n, e := code.GetRow("\x01\x01"); l != nil || n != 0 || e != api.ErrEnd {
		t.Errorf("GetRow of 1 1: %#v %d %v", l, n, e)
	}
}
