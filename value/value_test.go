package value_test

import (
	"math"
	"slices"
	"strings"
	"testing"

	"fascicle/api"
	"fascicle/value"
)

const (
	minusZero = 0x8000000000000000
	infinite  = 0x7ff0000000000000
	below     = 0xfff0000000000000 // the infinite one below 0
	nan       = 0x7ff8000000000001
)

// nanBits has bits of NaN that are not canonical.
func nanBits() []uint64 {
	return []uint64{0x7ff0000000000001, 0x7ff8000000000000, 0x7ff8000000000002, 0x7ff8000000000003, 0x7fffffffffffffff,
		0xfff0000000000001, 0xfff8000000000000, 0xfff8000000000001, 0xffffffffffffffff}
}

// valid has texts of at most 100 bytes that are valid UTF-8.
func valid() []string {
	return []string{"", "a", "\x00", "\x7f", "a\x00b", "\u0080", "\u00e9", "\u07ff", "\u0800", "\ud7ff", "\ue000", "\ufffd", "\uffff", "\U00010000", "\U0010ffff",
		"one, \u00e9, \u20ac, \U0001f600", strings.Repeat("a", 99), strings.Repeat("a", 100),
		strings.Repeat("\u00e9", 50), strings.Repeat("\u20ac", 33) + "a", strings.Repeat("\U0001f600", 25)}
}

// broken has texts of at most 100 bytes that are not valid UTF-8.
func broken() []string {
	return []string{"\xff", "\xfe", "\x80", "\xbf", "\xc3", "\xe2\x82", "\xe2", "\xf0\x9f\x98", "\xf0\x9f", "\xf0", "a\xff", "\xffa", "a\xffb",
		"\u00e9\xc3", "\u20ac\xe2\x82", "\xc3a", "\xe2\x82a", "\xa9\u00e9",
		"\xc0\x80", "\xc1\xbf", "\xe0\x80\x80", "\xf0\x80\x80\x80", // longer than need be
		"\xed\xa0\x80", "\xed\xbf\xbf", // halves of pairs
		"\xf4\x90\x80\x80", "\xf5\x80\x80\x80", "\xf8\x88\x80\x80\x80", // behind the last rune
		strings.Repeat("a", 99) + "\xff", strings.Repeat("a", 99) + "\u00e9"[:1], strings.Repeat("a", 98) + "\u20ac"[:2], "\xff" + strings.Repeat("a", 99)}
}

// long has texts of more than 100 bytes, valid UTF-8 and not.
func long() []string {
	return []string{strings.Repeat("a", 101), strings.Repeat("\x00", 101), strings.Repeat("\u00e9", 51), "a" + strings.Repeat("\u00e9", 50), strings.Repeat("\U0001f600", 26), strings.Repeat("a", 100000),
		strings.Repeat("a", 100) + "\xff", "\xff" + strings.Repeat("a", 100), strings.Repeat("\xff", 101), strings.Repeat("a", 99) + "\u20ac"[:2], strings.Repeat("\x80", 1000)}
}

// good has values that may be, of each kind, each once.
func good() []api.Value {
	l := []api.Value{{}, {Kind: 1}, {Kind: 1, Int: 1}}
	for _, n := range []int64{0, 1, 2, -1, 255, 256, 1 << 32, -1 << 32, math.MaxInt64, math.MaxInt64 - 1, math.MinInt64, math.MinInt64 + 1} {
		l = append(l, api.Value{Kind: 2, Int: n})
	}
	for _, bits := range []uint64{0, minusZero, 1, minusZero + 1, 0x3ff0000000000000, 0xbff0000000000000, infinite, below, infinite - 1, below - 1, nan} {
		l = append(l, api.Value{Kind: 3, Real: bits})
	}
	for _, s := range append(valid(), broken()...) {
		l = append(l, api.Value{Kind: 4, Text: s})
	}
	for _, s := range valid() {
		l = append(l, api.Value{Kind: 5, Text: s})
	}
	return l
}

// bad has values that may not be: each has one field that is not as it has to be.
func bad() []api.Value {
	l := []api.Value{
		{Kind: 6}, {Kind: 7}, {Kind: 128}, {Kind: 255}, {Kind: 255, Int: 1}, {Kind: 6, Real: 1}, {Kind: 6, Text: "a"}, // a kind above the last
		{Kind: 1, Int: 2}, {Kind: 1, Int: -1}, {Kind: 1, Int: 256}, {Kind: 1, Int: 257}, {Kind: 1, Int: 1 << 32}, {Kind: 1, Int: 1<<32 + 1}, {Kind: 1, Int: math.MaxInt64}, {Kind: 1, Int: math.MinInt64},
		{Kind: 0, Int: 1}, {Kind: 0, Int: -1}, {Kind: 0, Real: 1}, {Kind: 0, Real: minusZero}, {Kind: 0, Text: "a"}, {Kind: 0, Text: "\x00"},
		{Kind: 1, Real: 1}, {Kind: 1, Int: 1, Real: minusZero}, {Kind: 1, Text: "a"}, {Kind: 1, Int: 1, Text: "\x00"},
		{Kind: 2, Real: 1}, {Kind: 2, Int: 5, Real: minusZero}, {Kind: 2, Text: "a"}, {Kind: 2, Int: 5, Text: "\x00"},
		{Kind: 3, Int: 1}, {Kind: 3, Int: -1, Real: 1}, {Kind: 3, Int: 1, Real: nan}, {Kind: 3, Text: "a"}, {Kind: 3, Real: 1, Text: "\x00"},
		{Kind: 4, Int: 1}, {Kind: 4, Int: -1, Text: "a"}, {Kind: 4, Real: 1}, {Kind: 4, Real: minusZero, Text: "a"},
		{Kind: 5, Int: 1}, {Kind: 5, Int: -1, Text: "a"}, {Kind: 5, Real: 1}, {Kind: 5, Real: minusZero, Text: "a"},
	}
	for _, bits := range nanBits() {
		l = append(l, api.Value{Kind: 3, Real: bits})
	}
	for _, s := range long() {
		l = append(l, api.Value{Kind: 4, Text: s}, api.Value{Kind: 5, Text: s})
	}
	for _, s := range broken() {
		l = append(l, api.Value{Kind: 5, Text: s})
	}
	return l
}

// short tells a value without the most of a long text.
func short(v api.Value) api.Value {
	v.Text = v.Text[:min(len(v.Text), 110)]
	return v
}

// P4.1: values that may be.
func TestCheck(t *testing.T) {
	for _, v := range good() {
		if e := value.Check(v); e != api.OK {
			t.Errorf("Check(%#v): %v", v, e)
		}
	}
}

// P4.1: values that may not be.
func TestCheckWrong(t *testing.T) {
	for _, v := range bad() {
		if e := value.Check(v); e != api.ErrArg {
			t.Errorf("Check(%#v): %v, not ErrArg", short(v), e)
		}
	}
}

// P4.1: texts of each length about the limit.
func TestCheckLength(t *testing.T) {
	for n := range 300 {
		want := api.OK
		if n > 100 {
			want = api.ErrArg
		}
		for _, v := range []api.Value{{Kind: 4, Text: strings.Repeat("\xff", n)}, {Kind: 4, Text: strings.Repeat("a", n)}, {Kind: 5, Text: strings.Repeat("a", n)}} {
			if e := value.Check(v); e != want {
				t.Errorf("Check of kind %d, %d bytes: %v, not %v", v.Kind, n, e, want)
			}
		}
	}
}

// P4.1: a text that is cut amid a letter, wherever.
func TestCheckCut(t *testing.T) {
	text := "a\u00e9b\u20acc\U0001f600d"
	ends := []int{0, 1, 3, 4, 7, 8, 12, 13}
	for n := range len(text) + 1 {
		want := api.ErrArg
		if slices.Contains(ends, n) {
			want = api.OK
		}
		if e := value.Check(api.Value{Kind: 5, Text: text[:n]}); e != want {
			t.Errorf("Check of the first %d bytes: %v, not %v", n, e, want)
		}
		if e := value.Check(api.Value{Kind: 5, Text: text[n:]}); e != want {
			t.Errorf("Check without the first %d bytes: %v, not %v", n, e, want)
		}
		if e := value.Check(api.Value{Kind: 4, Text: text[:n]}); e != api.OK {
			t.Errorf("Check of the first %d bytes, as such: %v", n, e)
		}
	}
}

// plain tells what the chapter's words say, kind by kind, of the fields that field has.
func plain(v api.Value) bool {
	noInt, noReal, noText := v.Int == 0, v.Real == 0, v.Text == ""
	switch v.Kind {
	case 0:
		return noInt && noReal && noText
	case 1:
		return (v.Int == 0 || v.Int == 1) && noReal && noText
	case 2:
		return noReal && noText
	case 3:
		return noInt && !slices.Contains(nanBits(), v.Real) && noText
	case 4:
		return noInt && noReal && len(v.Text) <= 100
	case 5:
		return noInt && noReal && len(v.Text) <= 100 && !slices.Contains(broken(), v.Text)
	}
	return false
}

// mixtures has values with fields of all kinds, in all mixtures.
func mixtures(kinds int) []api.Value {
	var l []api.Value
	for kind := range kinds {
		for _, n := range []int64{0, 1, -1, 2, math.MaxInt64, math.MinInt64} {
			for _, bits := range []uint64{0, 1, minusZero, below, nan, 0x7ff8000000000000, 0xffffffffffffffff} {
				for _, s := range []string{"", "a", "\x00", "\xff", strings.Repeat("b", 100), strings.Repeat("b", 101)} {
					l = append(l, api.Value{Kind: uint8(kind), Int: n, Real: bits, Text: s})
				}
			}
		}
	}
	return l
}

// P4.1: fields of all kinds, in all mixtures, with each kind that there is and that there is not.
func TestCheckMixtures(t *testing.T) {
	for _, v := range mixtures(256) {
		want := api.ErrArg
		if plain(v) {
			want = api.OK
		}
		if e := value.Check(v); e != want {
			t.Errorf("Check(%#v): %v, not %v", v, e, want)
		}
	}
}

// row has n values that may be, of all kinds.
func row(n int) []api.Value {
	all := []api.Value{{Kind: 2, Int: -7}, {Kind: 5, Text: "\u00e9"}, {}, {Kind: 3, Real: nan}, {Kind: 4, Text: "\xff"}, {Kind: 1, Int: 1}, {Kind: 5}, {Kind: 3, Real: minusZero}}
	var l []api.Value
	for i := range n {
		l = append(l, all[i%len(all)])
	}
	return l
}

// P4.1: rows have 1 to 8 values.
func TestRowLength(t *testing.T) {
	for n := range 40 {
		want := api.ErrArg
		if n >= 1 && n <= 8 {
			want = api.OK
		}
		if e := value.Row(row(n)); e != want {
			t.Errorf("Row of %d values: %v, not %v", n, e, want)
		}
		if e := value.Row(make([]api.Value, n)); e != want {
			t.Errorf("Row of %d none: %v, not %v", n, e, want)
		}
	}
	if e := value.Row(nil); e != api.ErrArg {
		t.Errorf("Row(nil): %v", e)
	}
	if e := value.Row(make([]api.Value, 1<<16)); e != api.ErrArg {
		t.Errorf("Row of many: %v", e)
	}
}

// P4.1: a row of one value may be just if the value may.
func TestRowOne(t *testing.T) {
	for _, v := range append(good(), bad()...) {
		if got, want := value.Row([]api.Value{v}), value.Check(v); got != want {
			t.Errorf("Row of %#v: %v, not %v", short(v), got, want)
		}
	}
}

// P4.1: one value that may not be, wherever it stands, spoils the row; an argument stays as it is.
func TestRowWrong(t *testing.T) {
	for n := 1; n <= 8; n++ {
		for at := range n {
			for _, v := range bad() {
				l := row(n)
				l[at] = v
				kept := slices.Clone(l)
				if e := value.Row(l); e != api.ErrArg {
					t.Errorf("Row of %d values, %#v at %d: %v, not ErrArg", n, short(v), at, e)
				}
				if !slices.Equal(l, kept) {
					t.Errorf("Row changed its argument")
				}
			}
		}
	}
}

// P4.1: values that lie behind the row's end, and ahead of it, don't count.
func TestRowPiece(t *testing.T) {
	l := append(append([]api.Value{{Kind: 9}}, row(8)...), api.Value{Kind: 9})
	if e := value.Row(l[1:9]); e != api.OK {
		t.Errorf("Row of a piece: %v", e)
	}
	if e := value.Row(l[1:1]); e != api.ErrArg {
		t.Errorf("Row of a piece without values: %v", e)
	}
}
