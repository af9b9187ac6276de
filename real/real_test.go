package real_test

import (
	"math"
	"testing"

	"fascicle/real"
)

// ladder has canonical bits in the order that the chapter gives: at both ends of each of its steps, and between.
func ladder() []uint64 {
	return []uint64{
		0xfff0000000000000, // the infinite one below 0
		0xffefffffffffffff, // the greatest number, below 0
		0xffe0000000000000,
		0xc340000000000000, // -2^53
		0xc000000000000001,
		0xc000000000000000, // -2
		0xbfffffffffffffff,
		0xbff8000000000000, // -1.5
		0xbff0000000000000, // -1
		0xbfefffffffffffff,
		0xbfb999999999999a, // -0.1
		0x8020000000000000,
		0x8010000000000001,
		0x8010000000000000, // the least number whose power is not 0, below 0
		0x800fffffffffffff, // the greatest number whose power is 0, below 0
		0x8008000000000000,
		0x8000000000000002,
		0x8000000000000001, // the least number, below 0
		0x8000000000000000, // -0
		0x0000000000000000, // +0
		0x0000000000000001,
		0x0000000000000002,
		0x0008000000000000,
		0x000fffffffffffff,
		0x0010000000000000,
		0x0010000000000001,
		0x0020000000000000,
		0x3fb999999999999a,
		0x3fefffffffffffff,
		0x3ff0000000000000,
		0x3ff8000000000000,
		0x3fffffffffffffff,
		0x4000000000000000,
		0x4000000000000001,
		0x4340000000000000,
		0x7fe0000000000000,
		0x7fefffffffffffff,
		0x7ff0000000000000, // the infinite one
		0x7ff8000000000001, // NaN
	}
}

// numbers has bits of numbers, rising: the ladder without its last one.
func numbers() []uint64 {
	l := ladder()
	return l[:len(l)-1]
}

// others has bits of NaN that are not canonical: with each bit of the fraction alone, with many of them, with and without the sign.
func others() []uint64 {
	l := []uint64{0xfff8000000000001}
	for _, top := range []uint64{0x7ff0000000000000, 0xfff0000000000000} {
		for bit := range 52 {
			l = append(l, top|1<<bit)
		}
		l = append(l, top|0x0000000000000003, top|0x0008000000000002, top|0x0008000000000003,
			top|0x0007ffffffffffff, top|0x000c000000000001, top|0x000ffffffffffffe, top|0x000fffffffffffff)
	}
	return l
}

// mixed has bits of all kinds, without a rule.
func mixed(n int) []uint64 {
	var l []uint64
	x := uint64(n)
	for range n {
		x = x*6364136223846793005 + 1442695040888963407
		l = append(l, x^x>>29)
	}
	return l
}

// all has bits of each kind.
func all() []uint64 { return append(append(ladder(), others()...), mixed(300)...) }

// isNaN tells what the chapter's words say of a power and a fraction.
func isNaN(bits uint64) bool {
	return bits>>52&0x7ff == 0x7ff && bits&(1<<52-1) != 0
}

// P3.1: bits of a number are canonical as they are.
func TestCanonNumbers(t *testing.T) {
	for _, bits := range numbers() {
		if got := real.Canon(bits); got != bits {
			t.Errorf("Canon(%016x): %016x", bits, got)
		}
	}
	for _, v := range []float64{0, math.Copysign(0, -1), 1, -1, 0.1, 1e300, -1e-300, math.Pi, math.MaxFloat64, -math.MaxFloat64,
		math.SmallestNonzeroFloat64, -math.SmallestNonzeroFloat64, math.Inf(1), math.Inf(-1)} {
		bits := math.Float64bits(v)
		if got := real.Canon(bits); got != bits {
			t.Errorf("Canon of %g: %016x, not %016x", v, got, bits)
		}
	}
}

// P3.1: all bits of NaN become the same ones.
func TestCanonNaN(t *testing.T) {
	for _, bits := range append(others(), 0xfff0000000000001, 0x7ff8000000000001, math.Float64bits(math.NaN())) {
		if got := real.Canon(bits); got != 0x7ff8000000000001 {
			t.Errorf("Canon(%016x): %016x", bits, got)
		}
	}
}

// P3.1: each power, with and without a fraction, and with the sign: only the last one has NaN.
func TestCanonPowers(t *testing.T) {
	for power := range uint64(2048) {
		for _, fraction := range []uint64{0, 1, 1 << 51, 1<<52 - 1} {
			for _, sign := range []uint64{0, 1 << 63} {
				bits := sign | power<<52 | fraction
				want := bits
				if power == 2047 && fraction != 0 {
					want = 0x7ff8000000000001
				}
				if got := real.Canon(bits); got != want {
					t.Errorf("Canon(%016x): %016x, not %016x", bits, got, want)
				}
			}
		}
	}
}

// P3.1: bits without a rule, and what is canonical stays.
func TestCanonMixed(t *testing.T) {
	for _, bits := range all() {
		want := bits
		if isNaN(bits) {
			want = 0x7ff8000000000001
		}
		got := real.Canon(bits)
		if got != want || real.Canon(got) != got {
			t.Errorf("Canon(%016x): %016x, not %016x", bits, got, want)
		}
	}
}

// P3.1: the steps of the order, one by one and far apart, both ways round, and same bits.
func TestLessOrder(t *testing.T) {
	l := ladder()
	for i, a := range l {
		for j, b := range l {
			if got := real.Less(a, b); got != (i < j) {
				t.Errorf("Less(%016x, %016x): %t", a, b, got)
			}
		}
	}
}

// P3.1: -0 stands ahead of +0, not the other way round.
func TestLessZeros(t *testing.T) {
	const below, above = 0x8000000000000000, 0
	for _, x := range []struct {
		a, b uint64
		less bool
	}{
		{below, above, true},
		{above, below, false},
		{above, above, false},
		{below, below, false},
	} {
		if got := real.Less(x.a, x.b); got != x.less {
			t.Errorf("Less(%016x, %016x): %t", x.a, x.b, got)
		}
	}
}

// P3.1: any NaN stands behind all numbers, whatever its sign, and none ahead of another.
func TestLessNaN(t *testing.T) {
	nans := append(others(), 0x7ff8000000000001)
	for _, a := range nans {
		for _, b := range numbers() {
			if real.Less(a, b) {
				t.Errorf("NaN %016x stands ahead of %016x", a, b)
			}
			if !real.Less(b, a) {
				t.Errorf("%016x does not stand ahead of NaN %016x", b, a)
			}
		}
		for _, b := range nans {
			if real.Less(a, b) {
				t.Errorf("NaN %016x stands ahead of NaN %016x", a, b)
			}
		}
	}
}

// P3.4: where neither is NaN, and not both are 0, Less is as numbers are compared.
func TestLessCompared(t *testing.T) {
	l := all()
	for _, a := range l {
		for _, b := range l {
			if isNaN(a) || isNaN(b) || a<<1 == 0 && b<<1 == 0 {
				continue
			}
			want := math.Float64frombits(a) < math.Float64frombits(b)
			if got := real.Less(a, b); got != want {
				t.Errorf("Less(%016x, %016x): %t, as numbers %t", a, b, got, want)
			}
		}
	}
}

// P3.1: Less asks of canonical bits alone.
func TestLessCanon(t *testing.T) {
	l := all()
	for _, a := range l {
		for _, b := range l {
			if real.Less(a, b) != real.Less(real.Canon(a), real.Canon(b)) {
				t.Errorf("Less(%016x, %016x) is otherwise than of their canonical bits", a, b)
			}
		}
	}
}
