package word_test

import (
	"hash/crc32"
	"strings"
	"testing"

	"fascicle/word"
)

// texts has texts of the lengths that are told apart, and some longer ones: of one byte again and again, and mixed.
func texts() []string {
	l := []string{"123456789", "The quick brown fox jumps over the lazy dog", "a\u00e9\u20ac", "\xff\xfe\x80"}
	for _, n := range []int{0, 1, 2, 3, 4, 5, 7, 8, 9, 15, 16, 17, 31, 32, 33, 255, 256, 257, 1000} {
		l = append(l, strings.Repeat("\x00", n), strings.Repeat("\xff", n), mixed(n))
	}
	return l
}

// mixed is a text of n bytes, of all kinds.
func mixed(n int) string {
	b := make([]byte, n)
	x := uint32(n) + 1
	for i := range b {
		x = x*1664525 + 1013904223
		b[i] = byte(x >> 24)
	}
	return string(b)
}

// turned is s with one bit the other way round.
func turned(s string, bit int) string {
	b := []byte(s)
	b[bit/8] ^= 1 << (bit % 8)
	return string(b)
}

// divided is the CRC-32 bit by bit, as the chapter's words say.
func divided(s string) uint32 {
	rest := ^uint32(0)
	for i := 0; i < len(s); i++ {
		for bit := range 8 {
			low := rest&1 ^ uint32(s[i]>>bit&1)
			rest >>= 1
			if low == 1 {
				rest ^= 0xedb88320
			}
		}
	}
	return ^rest
}

// P1.2: sums that are known.
func TestSumKnown(t *testing.T) {
	for s, want := range map[string]uint32{
		"":                         0,
		"a":                        0xe8b7be43,
		"abc":                      0x352441c2,
		"123456789":                0xcbf43926,
		"\x00":                     0xd202ef8d,
		"\xff":                     0xff000000,
		"\x00\x00\x00\x00":         0x2144df1c,
		strings.Repeat("\x00", 32): 0x190a55ad,
		strings.Repeat("\xff", 32): 0xff6cab0b,
		"The quick brown fox jumps over the lazy dog": 0x414fa339,
	} {
		if got := word.Sum(s); got != want {
			t.Errorf("Sum(%q): %08x, not %08x", s, got, want)
		}
	}
}

// P1.2: the sum is that of the chapter's words, and the usual one.
func TestSumUsual(t *testing.T) {
	l := texts()
	for b := range 256 {
		l = append(l, string([]byte{byte(b)}), string([]byte{0, byte(b)}))
	}
	l = append(l, mixed(1<<16+1))
	for _, s := range l {
		got := word.Sum(s)
		if got != divided(s) || got != crc32.ChecksumIEEE([]byte(s)) {
			t.Errorf("Sum of %d bytes: %08x, not %08x", len(s), got, divided(s))
		}
	}
}

// R6: a sum hangs on its text alone, not on sums that were made before.
func TestSumAgain(t *testing.T) {
	for _, s := range texts() {
		first := word.Sum(s)
		word.Sum("something else")
		if word.Sum(s) != first {
			t.Errorf("Sum of %q is another one the second time", s)
		}
	}
}

// P1.4: the sum turns with any bit.
func TestSumBit(t *testing.T) {
	for _, s := range texts() {
		sum := word.Sum(s)
		for bit := range 8 * min(len(s), 64) {
			if word.Sum(turned(s, bit)) == sum {
				t.Errorf("bit %d of %d bytes is turned, and the sum stays", bit, len(s))
			}
		}
	}
}

// P1.4: the sum turns with any bits that lie within 32 in a row.
func TestSumRow(t *testing.T) {
	rows := []uint32{1, 3, 1<<31 | 1, 1<<32 - 1, 0xedb88320, 0x04c11db7, 0xaaaaaaaa, 0x80000000, 0xdb710641, 0x82608edb}
	for i := range 200 {
		rows = append(rows, word.Sum(mixed(i))|1)
	}
	for _, s := range []string{mixed(4), mixed(5), mixed(17), strings.Repeat("\x00", 9), strings.Repeat("\xff", 9)} {
		sum := word.Sum(s)
		for from := 0; from+32 <= 8*len(s); from++ {
			for _, row := range rows {
				other := s
				for bit := range 32 {
					if row>>bit&1 == 1 {
						other = turned(other, from+bit)
					}
				}
				if word.Sum(other) == sum {
					t.Errorf("bits %08x from %d on of %q are turned, and the sum stays", row, from, s)
				}
			}
		}
	}
}
