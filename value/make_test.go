package value_test

import (
	"math"
	"strings"
	"testing"

	"fascicle/api"
	"fascicle/value"
)

// P4.2: none, yes and no.
func TestNullBool(t *testing.T) {
	if v := value.Null(); v != (api.Value{Kind: 0}) {
		t.Errorf("Null: %#v", v)
	}
	if v := value.Bool(true); v != (api.Value{Kind: 1, Int: 1}) {
		t.Errorf("Bool(true): %#v", v)
	}
	if v := value.Bool(false); v != (api.Value{Kind: 1}) {
		t.Errorf("Bool(false): %#v", v)
	}
}

// P4.2: any number, the least and the greatest with them.
func TestInt(t *testing.T) {
	for _, n := range []int64{0, 1, -1, 2, 127, 128, -128, 1 << 31, 1 << 32, 1<<53 + 1, math.MaxInt64, math.MaxInt64 - 1, math.MinInt64, math.MinInt64 + 1} {
		if v := value.Int(n); v != (api.Value{Kind: 2, Int: n}) {
			t.Errorf("Int(%d): %#v", n, v)
		}
	}
}

// P4.2: the bits of numbers with a point stay as they are.
func TestReal(t *testing.T) {
	for _, x := range []struct {
		f    float64
		bits uint64
	}{
		{0, 0},
		{math.Copysign(0, -1), minusZero},
		{1, 0x3ff0000000000000},
		{-1, 0xbff0000000000000},
		{0.1, 0x3fb999999999999a},
		{-2.5, 0xc004000000000000},
		{math.SmallestNonzeroFloat64, 1},
		{-math.SmallestNonzeroFloat64, minusZero + 1},
		{math.MaxFloat64, 0x7fefffffffffffff},
		{-math.MaxFloat64, 0xffefffffffffffff},
		{math.Inf(1), infinite},
		{math.Inf(-1), below},
	} {
		if v := value.Real(x.f); v != (api.Value{Kind: 3, Real: x.bits}) {
			t.Errorf("Real(%g): %#v", x.f, v)
		}
	}
}

// P4.2, P4.4: any NaN, with a sign and without, is one value.
func TestRealNaN(t *testing.T) {
	l := []float64{math.NaN(), math.Copysign(math.NaN(), -1), math.Inf(1) - math.Inf(1), math.Sqrt(-1)}
	for _, bits := range append(nanBits(), nan) {
		l = append(l, math.Float64frombits(bits))
	}
	for _, f := range l {
		if v := value.Real(f); v != (api.Value{Kind: 3, Real: nan}) {
			t.Errorf("Real of NaN %016x: %#v", math.Float64bits(f), v)
		}
	}
}

// made is what a call answers of s.
func made(t *testing.T, call func(s string) (api.Value, api.Errno), s string, want api.Value, wantErr api.Errno) {
	t.Helper()
	if v, e := call(s); v != want || e != wantErr {
		t.Errorf("of %d bytes %q: %#v %v, not %v", len(s), s[:min(len(s), 110)], v, e, wantErr)
	}
}

// P4.2: bytes of any kind, 100 at most.
func TestBytes(t *testing.T) {
	for _, s := range append(valid(), broken()...) {
		made(t, value.Bytes, s, api.Value{Kind: 4, Text: s}, api.OK)
	}
	for _, s := range long() {
		made(t, value.Bytes, s, api.Value{}, api.ErrLong)
	}
}

// P4.2: texts of 100 bytes at most that are valid UTF-8; where both errors are, it is too long.
func TestString(t *testing.T) {
	for _, s := range valid() {
		made(t, value.String, s, api.Value{Kind: 5, Text: s}, api.OK)
	}
	for _, s := range broken() {
		made(t, value.String, s, api.Value{}, api.ErrForm)
	}
	for _, s := range long() {
		made(t, value.String, s, api.Value{}, api.ErrLong)
	}
}

// P4.2: each length about the limit; it is counted in bytes, not in letters.
func TestTextLength(t *testing.T) {
	for n := range 300 {
		for _, s := range []string{strings.Repeat("a", n), strings.Repeat("\u00e9", n/2) + strings.Repeat("a", n%2), strings.Repeat("\xff", n)} {
			asBytes, asString := api.Value{Kind: 4, Text: s}, api.Value{Kind: 5, Text: s}
			form := api.OK
			if strings.HasPrefix(s, "\xff") {
				asString, form = api.Value{}, api.ErrForm
			}
			if n > 100 {
				made(t, value.Bytes, s, api.Value{}, api.ErrLong)
				made(t, value.String, s, api.Value{}, api.ErrLong)
				continue
			}
			made(t, value.Bytes, s, asBytes, api.OK)
			made(t, value.String, s, asString, form)
		}
	}
}

// P4.2: each single byte, and each pair of bytes.
func TestStringBytes(t *testing.T) {
	for a := range 256 {
		s := string([]byte{byte(a)})
		if a < 128 {
			made(t, value.String, s, api.Value{Kind: 5, Text: s}, api.OK)
		} else {
			made(t, value.String, s, api.Value{}, api.ErrForm)
		}
		for b := range 256 {
			s := string([]byte{byte(a), byte(b)})
			one := a < 128 && b < 128
			two := a >= 0xc2 && a < 0xe0 && b >= 0x80 && b < 0xc0
			if one || two {
				made(t, value.String, s, api.Value{Kind: 5, Text: s}, api.OK)
			} else {
				made(t, value.String, s, api.Value{}, api.ErrForm)
			}
		}
	}
}

// P4.1, P4.2: what is made may be.
func TestMadeMayBe(t *testing.T) {
	l := []api.Value{value.Null(), value.Bool(true), value.Bool(false)}
	for _, n := range []int64{0, 1, -1, math.MaxInt64, math.MinInt64} {
		l = append(l, value.Int(n))
	}
	for _, f := range []float64{0, math.Copysign(0, -1), 1.5, math.Inf(1), math.Inf(-1), math.NaN(), math.Float64frombits(0xffffffffffffffff)} {
		l = append(l, value.Real(f))
	}
	for _, s := range append(valid(), append(broken(), long()...)...) {
		for _, call := range []func(s string) (api.Value, api.Errno){value.Bytes, value.String} {
			if v, e := call(s); e == api.OK {
				l = append(l, v)
			}
		}
	}
	for _, v := range l {
		if e := value.Check(v); e != api.OK {
			t.Errorf("Check(%#v): %v", v, e)
		}
	}
}

// The chapter's examples.
func TestExamples(t *testing.T) {
	if a, b := value.Real(math.NaN()), value.Real(math.Copysign(math.NaN(), -1)); a != b || !value.Same([]api.Value{a}, []api.Value{b}) {
		t.Errorf("%#v %#v", a, b)
	}
	if !value.Less(value.Real(math.Copysign(0, -1)), value.Real(0)) {
		t.Error("-0 is not ahead of 0")
	}
	if !value.Less(value.Null(), value.Bool(false)) {
		t.Error("none is not ahead of no")
	}
	a, e := value.String("a")
	b, f := value.Bytes("b")
	if e != api.OK || f != api.OK || value.Less(a, b) {
		t.Error("the text a is ahead of the byte b", e, f)
	}
	made(t, value.String, "\xff", api.Value{}, api.ErrForm)
	made(t, value.Bytes, strings.Repeat("a", 101), api.Value{}, api.ErrLong)
}
