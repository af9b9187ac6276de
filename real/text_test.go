package real_test

import (
	"strconv"
	"strings"
	"testing"

	"fascicle/api"
	"fascicle/real"
)

// texts has canonical bits, each with its text.
func texts() map[uint64]string {
	return map[uint64]string{
		0x0000000000000000: "0000000000000000",
		0x8000000000000000: "8000000000000000",
		0x3ff0000000000000: "3ff0000000000000",
		0xbff0000000000000: "bff0000000000000",
		0x0000000000000001: "0000000000000001",
		0x000fffffffffffff: "000fffffffffffff",
		0x0010000000000000: "0010000000000000",
		0xffefffffffffffff: "ffefffffffffffff",
		0x7fefffffffffffff: "7fefffffffffffff",
		0x7ff0000000000000: "7ff0000000000000",
		0xfff0000000000000: "fff0000000000000",
		0x7ff8000000000001: "7ff8000000000001",
		0x0123456789abcdef: "0123456789abcdef",
		0xfedcba9876543210: "fedcba9876543210",
	}
}

// noText asks that none of these is read.
func noText(t *testing.T, l ...string) {
	t.Helper()
	for _, s := range l {
		if bits, e := real.Read(s); bits != 0 || e != api.ErrArg {
			t.Errorf("Read(%q): %016x %v, not ErrArg", s, bits, e)
		}
	}
}

// P3.3: the text of bits, and the bits of a text.
func TestTextRead(t *testing.T) {
	for bits, s := range texts() {
		if got := real.Text(bits); got != s {
			t.Errorf("Text(%016x): %q, not %q", bits, got, s)
		}
		if got, e := real.Read(s); got != bits || e != api.OK {
			t.Errorf("Read(%q): %016x %v", s, got, e)
		}
	}
}

// P3.3: any NaN has the text of the canonical one.
func TestTextNaN(t *testing.T) {
	for _, bits := range others() {
		if got := real.Text(bits); got != "7ff8000000000001" {
			t.Errorf("Text(%016x): %q", bits, got)
		}
	}
}

// P3.3: fewer and more digits than 16, though they were the digits of canonical bits.
func TestReadLength(t *testing.T) {
	noText(t, "", "0", "000000000000000", "3ff000000000000", "00000000000000000", "03ff0000000000000", "3ff00000000000000",
		"7ff80000000000001", "07ff8000000000001", strings.Repeat("0", 32), strings.Repeat("1", 1000))
	for n := range 40 {
		if n != 16 {
			noText(t, strings.Repeat("0", n), strings.Repeat("1", n))
		}
	}
}

// P3.3: each byte that is no digit, capital letters with them, wherever it stands.
func TestReadNoDigit(t *testing.T) {
	for b := range 256 {
		c := string([]byte{byte(b)})
		if strings.Contains("0123456789abcdef", c) {
			continue
		}
		for at := range 16 {
			s := "3ff0123456789abc"
			noText(t, s[:at]+c+s[at+1:])
		}
	}
}

// P3.3: digits that are spelt another way, and other things of 16 bytes, or of 16 signs.
func TestReadSpelling(t *testing.T) {
	noText(t, "3FF0000000000000", "3fF0000000000000", "7FF8000000000001", "0x3ff00000000000", "+3ff000000000000", "-3ff000000000000",
		" 3ff000000000000", "3ff000000000000 ", "3ff0_00000000000", "3ff0.00000000000", "1.00000000000000", "             NaN",
		strings.Repeat("\u0661", 8), strings.Repeat("\u0661", 16), strings.Repeat("\uff11", 16), "3ff00000000000\u00e9", strings.Repeat("\xff", 16))
}

// P3.3: the digits of bits that are not canonical.
func TestReadNotCanonical(t *testing.T) {
	noText(t, "7ff0000000000001", "7ff8000000000000", "7ff8000000000002", "7fffffffffffffff",
		"fff0000000000001", "fff8000000000000", "fff8000000000001", "ffffffffffffffff")
	for _, bits := range others() {
		noText(t, strconv.FormatUint(bits, 16))
	}
}

// P3.3, P3.4: what is told has 16 digits, and is read again as the canonical bits.
func TestTextIsRead(t *testing.T) {
	for _, bits := range all() {
		s := real.Text(bits)
		usual := strconv.FormatUint(real.Canon(bits), 16)
		if want := strings.Repeat("0", 16-len(usual)) + usual; s != want {
			t.Errorf("Text(%016x): %q, not %q", bits, s, want)
		}
		if got, e := real.Read(s); got != real.Canon(bits) || e != api.OK {
			t.Errorf("Text(%016x), Read: %016x %v", bits, got, e)
		}
	}
}
