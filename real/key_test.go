package real_test

import (
	"testing"

	"fascicle/api"
	"fascicle/real"
)

// keys has canonical bits, each with its key.
func keys() []struct{ bits, key uint64 } {
	return []struct{ bits, key uint64 }{
		{0x0000000000000000, 0x8000000000000000}, // +0
		{0x8000000000000000, 0x7fffffffffffffff}, // -0
		{0x3ff0000000000000, 0xbff0000000000000}, // 1
		{0xbff0000000000000, 0x400fffffffffffff}, // -1
		{0x0000000000000001, 0x8000000000000001}, // the least number
		{0x8000000000000001, 0x7ffffffffffffffe},
		{0x000fffffffffffff, 0x800fffffffffffff}, // the greatest number whose power is 0
		{0x800fffffffffffff, 0x7ff0000000000000},
		{0x0010000000000000, 0x8010000000000000}, // the least number whose power is not 0
		{0x8010000000000000, 0x7fefffffffffffff},
		{0x7fefffffffffffff, 0xffefffffffffffff}, // the greatest number
		{0xffefffffffffffff, 0x0010000000000000},
		{0x7ff0000000000000, 0xfff0000000000000}, // the infinite ones
		{0xfff0000000000000, 0x000fffffffffffff},
		{0x7ff8000000000001, 0xfff8000000000001}, // NaN
		{0x0123456789abcdef, 0x8123456789abcdef},
		{0xfedcba9876543210, 0x0123456789abcdef},
	}
}

// P3.2: the key of bits, and the bits of a key.
func TestKeyBack(t *testing.T) {
	for _, x := range keys() {
		if got := real.Key(x.bits); got != x.key {
			t.Errorf("Key(%016x): %016x, not %016x", x.bits, got, x.key)
		}
		if got, e := real.Back(x.key); got != x.bits || e != api.OK {
			t.Errorf("Back(%016x): %016x %v, not %016x", x.key, got, e, x.bits)
		}
	}
}

// P3.2: any NaN has the key of the canonical one.
func TestKeyNaN(t *testing.T) {
	for _, bits := range others() {
		if got := real.Key(bits); got != 0xfff8000000000001 {
			t.Errorf("Key(%016x): %016x", bits, got)
		}
	}
}

// P3.2: what would be the key of NaN's other bits, on both sides, is the key of none.
func TestBackNone(t *testing.T) {
	l := []uint64{0, 1, 0x0007fffffffffffe, 0x0007ffffffffffff, 0x000ffffffffffffe,
		0xfff0000000000001, 0xfff8000000000000, 0xfff8000000000002, 0xffffffffffffffff}
	for _, bits := range others() {
		key := bits | 1<<63
		if bits>>63 == 1 {
			key = ^bits
		}
		l = append(l, key)
	}
	for _, key := range l {
		if got, e := real.Back(key); got != 0 || e != api.ErrArg {
			t.Errorf("Back(%016x): %016x %v, not ErrArg", key, got, e)
		}
	}
}

// P3.2: at both ends of what is a key, and of what is none.
func TestBackEdges(t *testing.T) {
	for _, x := range []struct {
		last, none uint64
	}{
		{0x000fffffffffffff, 0x000ffffffffffffe}, // the infinite one below 0
		{0xfff0000000000000, 0xfff0000000000001}, // the infinite one
		{0xfff8000000000001, 0xfff8000000000000}, // NaN, from below
		{0xfff8000000000001, 0xfff8000000000002}, // NaN, from above
	} {
		if bits, e := real.Back(x.last); real.Key(bits) != x.last || e != api.OK {
			t.Errorf("Back(%016x): %016x %v", x.last, bits, e)
		}
		if bits, e := real.Back(x.none); bits != 0 || e != api.ErrArg {
			t.Errorf("Back(%016x): %016x %v, not ErrArg", x.none, bits, e)
		}
	}
}

// P3.4: keys rise just as bits stand.
func TestKeyRises(t *testing.T) {
	l := all()
	for _, a := range l {
		for _, b := range l {
			if below := real.Key(a) < real.Key(b); real.Less(a, b) != below {
				t.Errorf("Less(%016x, %016x): %t, and of their keys %t", a, b, !below, below)
			}
		}
	}
}

// P3.4: what is the key of bits leads back to them, once they are canonical.
func TestKeyLeadsBack(t *testing.T) {
	for _, bits := range all() {
		if got, e := real.Back(real.Key(bits)); got != real.Canon(bits) || e != api.OK {
			t.Errorf("Key(%016x), Back: %016x %v", bits, got, e)
		}
	}
}

// P3.4: what leads back is the key of what it leads to; all else is refused, and is the key of no bits.
func TestBackKey(t *testing.T) {
	of := map[uint64]bool{}
	for _, bits := range all() {
		of[real.Key(bits)] = true
	}
	for _, key := range all() {
		bits, e := real.Back(key)
		switch {
		case e == api.OK:
			if real.Key(bits) != key || real.Canon(bits) != bits {
				t.Errorf("Back(%016x): %016x, whose key is %016x", key, bits, real.Key(bits))
			}
		case bits != 0 || e != api.ErrArg || of[key]:
			t.Errorf("Back(%016x): %016x %v", key, bits, e)
		}
	}
}
