package key_test

import (
	"encoding/binary"
	"math"
	"slices"
	"strings"
	"testing"
	"unicode/utf8"

	"fascicle/api"
	"fascicle/key"
)

// gets asks that Get answers l of s.
func gets(t *testing.T, s string, l []api.Value) {
	t.Helper()
	if k, e := key.Get(s); !slices.Equal(k, l) || e != api.OK {
		t.Errorf("Get(%q): %#v %v, not %#v", s, k, e, l)
	}
}

// getFails asks that Get answers ErrForm of s, and no row.
func getFails(t *testing.T, s string) {
	t.Helper()
	if l, e := key.Get(s); len(l) != 0 || e != api.ErrForm {
		t.Errorf("Get of %d bytes, the first ones %q: %#v %v", len(s), s[:min(len(s), 900)], l, e)
	}
}

// asks asks that Get answers of s what the words of the chapter say.
func asks(t *testing.T, s string) {
	t.Helper()
	if l, is := rowOf(s); is && len(l) <= 8 {
		gets(t, s, l)
		return
	}
	getFails(t, s)
}

// rowOf tells, by trial, which row s is the key of, however long: a value's key, and a row's.
func rowOf(s string) ([]api.Value, bool) {
	if s == "" {
		return nil, true
	}
	for n := 1; n <= len(s); n++ {
		if v, is := valueOf(s[:n]); is {
			l, is := rowOf(s[n:])
			return append([]api.Value{v}, l...), is
		}
	}
	return nil, false
}

// valueOf tells which value s, the whole of it, is the key of.
func valueOf(s string) (api.Value, bool) {
	switch {
	case s == "\x01":
		return null(), true
	case s == "\x02\x00" || s == "\x02\x01":
		return truth(int64(s[1])), true
	case len(s) == 9 && s[0] == 3:
		return num(int64(binary.BigEndian.Uint64([]byte(s[1:])) ^ 1<<63)), true
	case len(s) == 9 && s[0] == 4:
		return pointOf(binary.BigEndian.Uint64([]byte(s[1:])))
	case s[0] != 5 && s[0] != 6 || len(s) < 3 || s[len(s)-2:] != "\x00\x01":
		return api.Value{}, false
	}
	told := s[1 : len(s)-2]
	v := api.Value{Kind: s[0] - 1, Text: strings.ReplaceAll(told, "\x00\xff", "\x00")}
	is := strings.ReplaceAll(v.Text, "\x00", "\x00\xff") == told && len(v.Text) <= 100 && (v.Kind == 4 || utf8.ValidString(v.Text))
	return v, is
}

// pointOf tells which value of KindReal has this number as its key.
func pointOf(n uint64) (api.Value, bool) {
	bits := n - 1<<63
	if n < 1<<63 {
		bits = 1<<64 - 1 - n
	}
	return point(bits), bits == nan || !math.IsNaN(math.Float64frombits(bits))
}

// P6.1: no byte is the key of no value.
func TestGetNone(t *testing.T) {
	gets(t, "", nil)
}

// P6.1, P6.3: what was put, of one value and of more.
func TestGet(t *testing.T) {
	for seed, p := range pairs() {
		gets(t, p.s, []api.Value{p.v})
		for n := range 9 {
			l, keys := row(n, seed)
			gets(t, strings.Join(keys, ""), l)
		}
	}
	gets(t, repeat("\x01", 8), make([]api.Value, 8))
}

// P6.1: a key that is cut: between two values it is that of a shorter row, else it is none.
func TestGetCut(t *testing.T) {
	for seed := range pairs() {
		l, keys := row(8, seed)
		whole := strings.Join(keys, "")
		rows := map[int]int{} // how many values a key of so many bytes has, and 1
		for n, size := 0, 0; n <= len(keys); n++ {
			rows[size] = n + 1
			if n < len(keys) {
				size += len(keys[n])
			}
		}
		for n := range len(whole) + 1 {
			if rows[n] > 0 {
				gets(t, whole[:n], l[:rows[n]-1])
			} else {
				getFails(t, whole[:n])
			}
		}
	}
}

// P6.1: a byte more, behind and ahead: 1 is one more value, if there may be one more.
func TestGetMore(t *testing.T) {
	for seed := range pairs() {
		for n := range 9 {
			l, keys := row(n, seed)
			whole := strings.Join(keys, "")
			for b := range 256 {
				one := string([]byte{byte(b)})
				if b == 1 && n < 8 {
					gets(t, whole+one, append(slices.Clone(l), null()))
				} else {
					getFails(t, whole+one)
				}
				asks(t, one+whole)
			}
		}
	}
}

// P6.1: each byte another one, and one that is wanting.
func TestGetOther(t *testing.T) {
	for seed, p := range pairs() {
		_, keys := row(4, seed)
		for at := range len(p.s) {
			for b := range 256 {
				asks(t, p.s[:at]+string([]byte{byte(b)})+p.s[at+1:])
			}
		}
		// Behind and ahead of others, by the bytes that tell most.
		for _, s := range []string{p.s, "\x02\x01" + p.s + "\x01", strings.Join(keys, "")} {
			for at := range len(s) {
				for _, b := range []string{"", "\x00", "\x01", "\x02", "\x05", "\x06", "\x07", "\x80", "\xfe", "\xff"} {
					asks(t, s[:at]+b+s[at+1:])
				}
			}
		}
	}
}

// P6.1: a first byte of no kind, wherever a value might stand.
func TestGetKind(t *testing.T) {
	for b := range 256 {
		if b >= 1 && b <= 6 {
			continue
		}
		kind := string([]byte{byte(b)})
		for n := range 8 {
			_, keys := row(n, b)
			for _, more := range []string{"", "\x00", "\x01", "\x00\x01", "a\x00\x01", repeat("\x00", 8), repeat("\xff", 8)} {
				getFails(t, strings.Join(keys, "")+kind+more)
			}
		}
	}
}

// P6.1: a Bool beside 0 and 1, or without its byte.
func TestGetBool(t *testing.T) {
	getFails(t, "\x02")
	for b := 2; b < 256; b++ {
		s := "\x02" + string([]byte{byte(b)})
		for _, more := range []string{"", "\x01", "\x00", "\x02\x01"} {
			getFails(t, s+more)
			getFails(t, "\x01"+s+more)
		}
	}
}

// P6.1: a number with less bytes, or with more.
func TestGetNumber(t *testing.T) {
	for n := range 20 {
		for _, kind := range []string{"\x03", "\x04"} {
			s := kind + repeat("\x80", n)
			if n == 8 {
				asks(t, s)
			} else {
				getFails(t, s)
			}
		}
	}
	// What stands behind its eight bytes is read as values, of kind 1.
	for n := range 8 {
		l := append([]api.Value{num(math.MinInt64 + 0x0101010101010101)}, make([]api.Value, n)...)
		gets(t, "\x03"+repeat("\x01", 8+n), l)
	}
	getFails(t, "\x03"+repeat("\x01", 8+8))
}

// P6.1: keys that no canonical bits have: all that are those of NaN, but one.
func TestGetNaN(t *testing.T) {
	for _, s := range []string{
		"\xff\xf0\x00\x00\x00\x00\x00\x01", "\xff\xf8\x00\x00\x00\x00\x00\x00", "\xff\xf8\x00\x00\x00\x00\x00\x02", "\xff\xff\xff\xff\xff\xff\xff\xff",
		"\x00\x0f\xff\xff\xff\xff\xff\xfe", "\x00\x07\xff\xff\xff\xff\xff\xfe", "\x00\x07\xff\xff\xff\xff\xff\xff", "\x00\x00\x00\x00\x00\x00\x00\x00",
	} {
		getFails(t, "\x04"+s)
		getFails(t, "\x04"+s+"\x01")
		getFails(t, "\x01\x04"+s)
		gets(t, "\x03"+s, []api.Value{num(int64(binary.BigEndian.Uint64([]byte(s)) ^ 1<<63))})
	}
	gets(t, "\x04\xff\xf8\x00\x00\x00\x00\x00\x01", []api.Value{point(nan)})
}

// P6.1: a byte 0 of a text, with each byte behind it, and with nothing.
func TestGetMark(t *testing.T) {
	for kind, v := range map[string]func(string) api.Value{"\x05": bytes, "\x06": text} {
		for _, head := range []string{"", "a", "\x00\xff", repeat("a", 99)} {
			own := strings.ReplaceAll(head, "\x00\xff", "\x00")
			getFails(t, kind+head)
			getFails(t, kind+head+"\x00")
			for b := range 256 {
				s := kind + head + "\x00" + string([]byte{byte(b)})
				switch b {
				case 1:
					gets(t, s, []api.Value{v(own)})
				case 255:
					getFails(t, s)
					gets(t, s+"\x00\x01", []api.Value{v(own + "\x00")})
				default:
					getFails(t, s)
					getFails(t, s+"\x00\x01")
				}
			}
		}
	}
}

// P6.1: texts of each length, and of more bytes than may be, with and without their end.
func TestGetLength(t *testing.T) {
	for _, told := range []string{"a", "\x00\xff", "\x01"} {
		own := told[:1]
		for n := range 300 {
			s := repeat(told, n)
			getFails(t, "\x05"+s)
			if n > 100 {
				getFails(t, "\x05"+s+"\x00\x01")
				getFails(t, "\x06"+s+"\x00\x01")
				getFails(t, "\x01\x06"+s+"\x00\x01\x01")
				continue
			}
			gets(t, "\x05"+s+"\x00\x01", []api.Value{bytes(repeat(own, n))})
			gets(t, "\x06"+s+"\x00\x01\x01", []api.Value{text(repeat(own, n)), null()})
		}
	}
	getFails(t, "\x05"+repeat("\xff", 101)+"\x00\x01")
	for _, s := range []string{"a", "\x00\xff", "\xff", "\x00"} {
		getFails(t, "\x05"+repeat(s, 1<<20))
		getFails(t, "\x06"+repeat(s, 1<<20)+"\x00\x01")
	}
}

// P6.1: what is not valid UTF-8 is no String, and is Bytes.
func TestGetLetters(t *testing.T) {
	for _, x := range loose() {
		for n := range 8 {
			l, keys := row(n, 5)
			head := strings.Join(keys, "")
			getFails(t, head+"\x06"+x[1])
			gets(t, head+"\x05"+x[1], append(l, bytes(x[0])))
		}
	}
}

// P6.1: the key of nine values, and of more.
func TestGetNine(t *testing.T) {
	for seed, p := range pairs() {
		_, keys := row(9, seed)
		getFails(t, strings.Join(keys, ""))
		getFails(t, repeat(p.s, 9))
		getFails(t, repeat(p.s, 264))
	}
	getFails(t, repeat("\x01", 1<<20))
}

// P6.1: each row that is got is a list of its own.
func TestGetNew(t *testing.T) {
	l, keys := row(8, 20)
	a, _ := key.Get(strings.Join(keys, ""))
	b, _ := key.Get(strings.Join(keys, ""))
	clear(a)
	if !slices.Equal(b, l) {
		t.Errorf("two rows share a list: %#v", b)
	}
}
