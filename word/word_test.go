package word_test

import (
	"math"
	"strings"
	"testing"

	"fascicle/api"
	"fascicle/word"
)

// numbers has, for each count of bits, the greatest number with room in it and its neighbours, and some ordinary ones.
func numbers() []uint64 {
	l := []uint64{0, 1, 2, 10, 255, 256, 258, 65535, 65536, 0x0123456789abcdef, 0xfedcba9876543210}
	for n := range 64 {
		v := uint64(1) << n
		l = append(l, v-1, v, v+1)
	}
	return append(l, math.MaxUint64-1, math.MaxUint64)
}

// top is the greatest number of so many bits.
func top(bits int) uint64 {
	if bits == 64 {
		return math.MaxUint64
	}
	return 1<<bits - 1
}

// outside has counts that none of Put and Hex takes.
func outside(most int) []int {
	return []int{0, -1, -8, math.MinInt, most + 1, most + 2, 64, math.MaxInt}
}

// P1.1: the bytes of a number, the lowest one first.
func TestPut(t *testing.T) {
	for _, x := range []struct {
		v uint64
		n int
		s string
	}{
		{258, 2, "\x02\x01"},
		{0, 1, "\x00"},
		{0, 3, "\x00\x00\x00"},
		{0, 8, "\x00\x00\x00\x00\x00\x00\x00\x00"},
		{1, 1, "\x01"},
		{1, 4, "\x01\x00\x00\x00"},
		{0x80, 1, "\x80"},
		{0xff, 1, "\xff"},
		{0xff, 2, "\xff\x00"},
		{0x010203, 3, "\x03\x02\x01"},
		{0x0102030405060708, 8, "\x08\x07\x06\x05\x04\x03\x02\x01"},
		{0xf1f2f3f4f5f6f7f8, 8, "\xf8\xf7\xf6\xf5\xf4\xf3\xf2\xf1"},
	} {
		if s, e := word.Put(x.v, x.n); s != x.s || e != api.OK {
			t.Errorf("Put(%d, %d): %q %v, not %q", x.v, x.n, s, e, x.s)
		}
	}
}

// P1.1: the greatest number with room in n bytes is put, the one behind it is not.
func TestPutRoom(t *testing.T) {
	for n := 1; n <= 8; n++ {
		if s, e := word.Put(top(8*n), n); s != strings.Repeat("\xff", n) || e != api.OK {
			t.Errorf("the greatest of %d bytes: %q %v", n, s, e)
		}
		if n == 8 {
			continue
		}
		for _, v := range []uint64{top(8*n) + 1, top(8*n) + 2, 1 << 63, math.MaxUint64} {
			if s, e := word.Put(v, n); s != "" || e != api.ErrLong {
				t.Errorf("Put(%d, %d): %q %v, not ErrLong", v, n, s, e)
			}
		}
	}
}

// P1.1: counts of bytes that may not be, for numbers with and without room.
func TestPutCount(t *testing.T) {
	for _, n := range outside(8) {
		for _, v := range []uint64{0, 1, 256, math.MaxUint64} {
			if s, e := word.Put(v, n); s != "" || e != api.ErrArg {
				t.Errorf("Put(%d, %d): %q %v, not ErrArg", v, n, s, e)
			}
		}
	}
}

// P1.1: the number whose bytes they are.
func TestGet(t *testing.T) {
	for _, x := range []struct {
		s string
		v uint64
	}{
		{"\x00", 0},
		{"\x05", 5},
		{"\xff", 255},
		{"\x02\x01", 258},
		{"\x00\x01", 256},
		{"\x01\x00", 1},
		{"\x03\x02\x01", 0x010203},
		{"\x00\x00\x00\x00\x00\x00\x00\x00", 0},
		{"\x08\x07\x06\x05\x04\x03\x02\x01", 0x0102030405060708},
		{"\xff\xff\xff\xff\xff\xff\xff\xff", math.MaxUint64},
		{"\x00\x00\x00\x00\x00\x00\x00\x80", 1 << 63},
		{"a\u00e9", 0xa9c361},
	} {
		if v, e := word.Get(x.s); v != x.v || e != api.OK {
			t.Errorf("Get(%q): %d %v, not %d", x.s, v, e, x.v)
		}
	}
}

// P1.1: texts of no byte, and of more than 8.
func TestGetLength(t *testing.T) {
	for _, n := range []int{0, 9, 10, 16, 17, 100} {
		for _, c := range []string{"\x00", "\x01", "\xff"} {
			if v, e := word.Get(strings.Repeat(c, n)); v != 0 || e != api.ErrArg {
				t.Errorf("Get of %d bytes %q: %d %v, not ErrArg", n, c, v, e)
			}
		}
	}
	for _, n := range []int{1, 8} {
		if v, e := word.Get(strings.Repeat("\xff", n)); v != top(8*n) || e != api.OK {
			t.Errorf("Get of %d bytes: %d %v", n, v, e)
		}
	}
}

// P1.4: what was put is got, in each count of bytes that has room.
func TestPutGet(t *testing.T) {
	for _, v := range numbers() {
		for n := 1; n <= 8; n++ {
			s, e := word.Put(v, n)
			if v > top(8*n) {
				if e != api.ErrLong {
					t.Errorf("Put(%d, %d): %v, not ErrLong", v, n, e)
				}
				continue
			}
			if len(s) != n || e != api.OK {
				t.Errorf("Put(%d, %d): %q %v", v, n, s, e)
			}
			if got, e := word.Get(s); got != v || e != api.OK {
				t.Errorf("Put(%d, %d), Get: %d %v", v, n, got, e)
			}
		}
	}
}

// P1.4: and what was got is put as it was.
func TestGetPut(t *testing.T) {
	for n := 1; n <= 8; n++ {
		for _, s := range []string{strings.Repeat("\x00", n), strings.Repeat("\xff", n), "\xf8\x07\x96\x05\x00\x83\x02\x00"[:n]} {
			v, e := word.Get(s)
			if e != api.OK {
				t.Errorf("Get(%q): %v", s, e)
			}
			if again, e := word.Put(v, n); again != s || e != api.OK {
				t.Errorf("Get, Put of %q: %q %v", s, again, e)
			}
		}
	}
}
