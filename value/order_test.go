package value_test

import (
	"math"
	"slices"
	"strings"
	"testing"

	"fascicle/api"
	"fascicle/value"
)

// ladder has values that may be in the order that the chapter gives: at both ends of each kind, and between.
func ladder() []api.Value {
	l := []api.Value{{}, {Kind: 1}, {Kind: 1, Int: 1}}
	for _, n := range []int64{math.MinInt64, math.MinInt64 + 1, -1 << 32, -256, -2, -1, 0, 1, 2, 255, 256, 1 << 32, math.MaxInt64 - 1, math.MaxInt64} {
		l = append(l, api.Value{Kind: 2, Int: n})
	}
	for _, bits := range []uint64{below, below - 1, 0xc000000000000000, 0xbff0000000000000, minusZero + 1, minusZero,
		0, 1, 0x3ff0000000000000, 0x4000000000000000, infinite - 1, infinite, nan} {
		l = append(l, api.Value{Kind: 3, Real: bits})
	}
	for _, s := range []string{"", "\x00", "\x00\x00", "\x00a", "\x01", "A", "B", "a", "a\x00", "aa", "ab", "ab\x00", "abc", "ab\xff", "ac", "b",
		strings.Repeat("b", 99), strings.Repeat("b", 100), strings.Repeat("b", 99) + "c", "\x7f", "\x80", "\xc3\xa9", "\xfe\xff", "\xff", "\xff\x00"} {
		l = append(l, api.Value{Kind: 4, Text: s})
	}
	for _, s := range []string{"", "\x00", "A", "a", "aa", "ab", "abc", "ac", strings.Repeat("b", 99), strings.Repeat("b", 100), "\x7f", "\u0080", "\u00e9", "\u00e9a", "\u07ff", "\u20ac", "\uffff", "\U00010000", "\U0010ffff"} {
		l = append(l, api.Value{Kind: 5, Text: s})
	}
	return l
}

// P4.3, P4.4: any two of the ladder, of one kind and of two, both ways round, and each with itself.
func TestLessOrder(t *testing.T) {
	l := ladder()
	for i, a := range l {
		for j, b := range l {
			if got := value.Less(a, b); got != (i < j) {
				t.Errorf("Less(%#v, %#v): %t", a, b, got)
			}
		}
	}
}

// P4.3: values that may not be are told by their fields: the kind, then Int, then Real, then Text, whatever the kind.
func TestLessFields(t *testing.T) {
	for _, x := range []struct{ a, b api.Value }{
		{api.Value{Kind: 5}, api.Value{Kind: 6}},
		{api.Value{Kind: 6}, api.Value{Kind: 255}},
		{api.Value{Kind: 127}, api.Value{Kind: 128}},
		{api.Value{Kind: 0, Int: 9, Real: nan, Text: "z"}, api.Value{Kind: 1, Int: -9, Real: below}},
		{api.Value{Kind: 5, Int: 9, Real: nan, Text: "z"}, api.Value{Kind: 9, Int: -9, Real: below}},
		{api.Value{Kind: 1, Int: -1}, api.Value{Kind: 1}},
		{api.Value{Kind: 1, Int: 1}, api.Value{Kind: 1, Int: 2}},
		{api.Value{Kind: 0, Int: math.MinInt64, Real: nan, Text: "z"}, api.Value{Kind: 0, Int: math.MaxInt64}},
		{api.Value{Kind: 3, Int: 1, Real: nan}, api.Value{Kind: 3, Int: 2, Real: 1}},
		{api.Value{Kind: 4, Int: 1, Text: "z"}, api.Value{Kind: 4, Int: 2, Text: "a"}},
		{api.Value{Kind: 9, Int: -1, Text: "z"}, api.Value{Kind: 9, Int: 0, Text: "a"}},
		{api.Value{Kind: 0, Real: minusZero, Text: "z"}, api.Value{Kind: 0}},
		{api.Value{Kind: 2, Int: 5, Real: below}, api.Value{Kind: 2, Int: 5, Real: 0}},
		{api.Value{Kind: 4, Real: 1, Text: "z"}, api.Value{Kind: 4, Real: 2, Text: "a"}},
		{api.Value{Kind: 5, Real: infinite, Text: "z"}, api.Value{Kind: 5, Real: 0x7ff8000000000000, Text: "a"}},
		{api.Value{Kind: 3, Real: infinite}, api.Value{Kind: 3, Real: 0xffffffffffffffff}},
		{api.Value{Kind: 3, Real: minusZero, Text: "z"}, api.Value{Kind: 3, Text: "a"}},
		{api.Value{Kind: 0, Text: "a"}, api.Value{Kind: 0, Text: "b"}},
		{api.Value{Kind: 2, Int: 5, Text: ""}, api.Value{Kind: 2, Int: 5, Text: "a"}},
		{api.Value{Kind: 3, Real: 1, Text: "a"}, api.Value{Kind: 3, Real: 1, Text: "aa"}},
		{api.Value{Kind: 3, Real: 0xffffffffffffffff, Text: "a"}, api.Value{Kind: 3, Real: nan, Text: "b"}}, // NaN is NaN: the text tells it
		{api.Value{Kind: 3, Real: nan, Text: "a"}, api.Value{Kind: 3, Real: 0xffffffffffffffff, Text: "b"}},
		{api.Value{Kind: 4, Text: strings.Repeat("a", 101)}, api.Value{Kind: 4, Text: strings.Repeat("a", 102)}},
		{api.Value{Kind: 5, Text: strings.Repeat("a", 5000)}, api.Value{Kind: 5, Text: "b"}},
		{api.Value{Kind: 5, Text: "\xfe"}, api.Value{Kind: 5, Text: "\xff"}},
		{api.Value{Kind: 5, Text: "\u00e9"[:1]}, api.Value{Kind: 5, Text: "\u00e9"}},
	} {
		if !value.Less(x.a, x.b) {
			t.Errorf("%#v is not ahead of %#v", short(x.a), short(x.b))
		}
		if value.Less(x.b, x.a) {
			t.Errorf("%#v is ahead of %#v", short(x.b), short(x.a))
		}
	}
}

// P4.3: NaN of unlike bits: none of both is ahead, though they are not the same.
func TestLessNaN(t *testing.T) {
	l := append(nanBits(), nan)
	for _, a := range l {
		for _, b := range l {
			if value.Less(api.Value{Kind: 3, Real: a}, api.Value{Kind: 3, Real: b}) {
				t.Errorf("NaN %016x is ahead of NaN %016x", a, b)
			}
		}
	}
}

// isNaN tells what real.Less takes as one.
func isNaN(bits uint64) bool { return bits<<1 > infinite<<1 }

// plainLess tells the order of the fields, one by one.
func plainLess(a, b api.Value) bool {
	place := func(bits uint64) int64 {
		switch {
		case isNaN(bits):
			return math.MaxInt64
		case bits >= minusZero:
			return -1 - int64(bits-minusZero)
		}
		return int64(bits)
	}
	fields := func(v api.Value) []int64 { return []int64{int64(v.Kind), v.Int, place(v.Real)} }
	if c := slices.Compare(fields(a), fields(b)); c != 0 {
		return c < 0
	}
	return strings.Compare(a.Text, b.Text) < 0
}

// P4.3: fields of all kinds in all mixtures, most of which may not be.
func TestLessMixtures(t *testing.T) {
	l := mixtures(7)
	for _, a := range l {
		for _, b := range l {
			if got, want := value.Less(a, b), plainLess(a, b); got != want {
				t.Fatalf("Less(%#v, %#v): %t", a, b, got)
			}
		}
	}
}

// P4.4: of two values that may be one is ahead, or they are the same.
func TestOneAhead(t *testing.T) {
	l := append(good(), ladder()...)
	for _, a := range l {
		for _, b := range l {
			n := 0
			for _, is := range []bool{value.Less(a, b), value.Less(b, a), a == b} {
				if is {
					n++
				}
			}
			if n != 1 {
				t.Errorf("%#v, %#v: %d of ahead, behind and same", a, b, n)
			}
		}
	}
}

// P4.4: what is ahead of one that is ahead of a third one is ahead of that.
func TestThirdAhead(t *testing.T) {
	l := good()
	for _, a := range l {
		for _, b := range l {
			for _, c := range l {
				if value.Less(a, b) && value.Less(b, c) && !value.Less(a, c) {
					t.Fatalf("%#v, %#v, %#v", a, b, c)
				}
			}
		}
	}
}

// P4.4: NaN is the last one of KindReal, and -0 is ahead of 0, which is not ahead of it.
func TestRealEnds(t *testing.T) {
	last := value.Real(math.NaN())
	for _, f := range []float64{math.Inf(-1), -math.MaxFloat64, -1, math.Copysign(0, -1), 0, 1, math.MaxFloat64, math.Inf(1)} {
		if v := value.Real(f); !value.Less(v, last) || value.Less(last, v) {
			t.Errorf("NaN is not behind %g", f)
		}
	}
	if bytes := (api.Value{Kind: 4}); !value.Less(last, bytes) || value.Less(bytes, last) {
		t.Error("NaN is not ahead of bytes")
	}
	a, b := value.Real(math.Copysign(0, -1)), value.Real(0)
	if !value.Less(a, b) || value.Less(b, a) {
		t.Error("-0 and 0")
	}
}
