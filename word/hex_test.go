package word_test

import (
	"math"
	"strconv"
	"strings"
	"testing"

	"fascicle/api"
	"fascicle/word"
)

// P1.3: the digits of a number, the highest one first, letters small.
func TestHex(t *testing.T) {
	for _, x := range []struct {
		v uint64
		n int
		s string
	}{
		{255, 4, "00ff"},
		{0, 1, "0"},
		{0, 16, "0000000000000000"},
		{9, 1, "9"},
		{10, 1, "a"},
		{15, 1, "f"},
		{16, 2, "10"},
		{0xabc, 3, "abc"},
		{0xabc, 5, "00abc"},
		{0x0123456789abcdef, 16, "0123456789abcdef"},
		{0xfedcba9876543210, 16, "fedcba9876543210"},
		{0x123456789abcdef, 15, "123456789abcdef"},
	} {
		if s, e := word.Hex(x.v, x.n); s != x.s || e != api.OK {
			t.Errorf("Hex(%d, %d): %q %v, not %q", x.v, x.n, s, e, x.s)
		}
	}
}

// P1.3: the greatest number with room in n digits is told, the one behind it is not.
func TestHexRoom(t *testing.T) {
	for n := 1; n <= 16; n++ {
		if s, e := word.Hex(top(4*n), n); s != strings.Repeat("f", n) || e != api.OK {
			t.Errorf("the greatest of %d digits: %q %v", n, s, e)
		}
		if n == 16 {
			continue
		}
		for _, v := range []uint64{top(4*n) + 1, top(4*n) + 2, 1 << 63, math.MaxUint64} {
			if s, e := word.Hex(v, n); s != "" || e != api.ErrLong {
				t.Errorf("Hex(%d, %d): %q %v, not ErrLong", v, n, s, e)
			}
		}
	}
}

// P1.3: counts of digits that may not be, for numbers with and without room.
func TestHexCount(t *testing.T) {
	for _, n := range outside(16) {
		for _, v := range []uint64{0, 1, 256, math.MaxUint64} {
			if s, e := word.Hex(v, n); s != "" || e != api.ErrArg {
				t.Errorf("Hex(%d, %d): %q %v, not ErrArg", v, n, s, e)
			}
		}
	}
}

// P1.3: the number whose digits they are.
func TestUnhex(t *testing.T) {
	for _, x := range []struct {
		s string
		v uint64
	}{
		{"0", 0},
		{"7", 7},
		{"9", 9},
		{"a", 10},
		{"f", 15},
		{"00ff", 255},
		{"10", 16},
		{"ff00", 0xff00},
		{"89abcdef", 0x89abcdef},
		{"012345678", 0x12345678},
		{"0000000000000000", 0},
		{"0123456789abcdef", 0x0123456789abcdef},
		{"fedcba9876543210", 0xfedcba9876543210},
		{"ffffffffffffffff", math.MaxUint64},
	} {
		if v, e := word.Unhex(x.s); v != x.v || e != api.OK {
			t.Errorf("Unhex(%q): %d %v, not %d", x.s, v, e, x.v)
		}
	}
}

// P1.3: texts of no byte, and of more than 16.
func TestUnhexLength(t *testing.T) {
	for _, n := range []int{0, 17, 18, 32, 100} {
		for _, c := range []string{"0", "1", "f"} {
			if v, e := word.Unhex(strings.Repeat(c, n)); v != 0 || e != api.ErrArg {
				t.Errorf("Unhex of %d digits %q: %d %v, not ErrArg", n, c, v, e)
			}
		}
	}
	for _, n := range []int{1, 8, 9, 16} {
		if v, e := word.Unhex(strings.Repeat("f", n)); v != top(4*n) || e != api.OK {
			t.Errorf("Unhex of %d digits: %d %v", n, v, e)
		}
	}
}

// P1.3: each byte that is no digit, capital letters with them, wherever it stands.
func TestUnhexNoDigit(t *testing.T) {
	for b := range 256 {
		c := string([]byte{byte(b)})
		if strings.Contains("0123456789abcdef", c) {
			continue
		}
		for _, s := range []string{c, c + "0", "0" + c, "12" + c + "f", strings.Repeat("0", 15) + c, c + strings.Repeat("f", 15)} {
			if v, e := word.Unhex(s); v != 0 || e != api.ErrArg {
				t.Errorf("Unhex(%q): %d %v, not ErrArg", s, v, e)
			}
		}
	}
	for _, s := range []string{"00fF", "FF", "0x10", "-1", "+1", " 1", "1 ", "1_0", "1.0", "\u0661", "\uff11", "\u00e9", "0\u20ac", "\ufffd"} {
		if v, e := word.Unhex(s); v != 0 || e != api.ErrArg {
			t.Errorf("Unhex(%q): %d %v, not ErrArg", s, v, e)
		}
	}
}

// P1.4: what was told in digits is read, in each count of them that has room.
func TestHexUnhex(t *testing.T) {
	for _, v := range numbers() {
		usual := strconv.FormatUint(v, 16)
		for n := 1; n <= 16; n++ {
			s, e := word.Hex(v, n)
			if len(usual) > n {
				if s != "" || e != api.ErrLong {
					t.Errorf("Hex(%d, %d): %q %v, not ErrLong", v, n, s, e)
				}
				continue
			}
			if want := strings.Repeat("0", n-len(usual)) + usual; s != want || e != api.OK {
				t.Errorf("Hex(%d, %d): %q %v, not %q", v, n, s, e, want)
			}
			if got, e := word.Unhex(s); got != v || e != api.OK {
				t.Errorf("Hex(%d, %d), Unhex: %d %v", v, n, got, e)
			}
		}
	}
}
