package code_test

import (
	"slices"
	"strings"
	"testing"

	"fascicle/api"
	"fascicle/code"
)

// behind has bytes that may stand behind a value.
func behind() []string {
	return []string{"", "\x00", "\x01", "\xff", "a", "\x80", "\x05\x02ab", "\xc3\xa9", strings.Repeat("z", 1000)}
}

// got asks that Get answers v and n of s.
func got(t *testing.T, s string, v api.Value, n int) {
	t.Helper()
	if w, m, e := code.Get(s); w != v || m != n || e != api.OK {
		t.Errorf("Get(%q): %#v %d %v, not %#v %d", s, w, m, e, v, n)
	}
}

// fails asks that Get answers an error of s, and nothing else.
func fails(t *testing.T, s string, want api.Errno) {
	t.Helper()
	if v, n, e := code.Get(s); v != (api.Value{}) || n != 0 || e != want {
		t.Errorf("Get(%q): %#v %d %v, not %v", s, v, n, e, want)
	}
}

// gotRow asks that GetRow answers l and n of s.
func gotRow(t *testing.T, s string, l []api.Value, n int) {
	t.Helper()
	if k, m, e := code.GetRow(s); !slices.Equal(k, l) || m != n || e != api.OK {
		t.Errorf("GetRow(%q): %#v %d %v, not %#v %d", s, k, m, e, l, n)
	}
}

// failsRow asks that GetRow answers an error of s, and nothing else.
func failsRow(t *testing.T, s string, want api.Errno) {
	t.Helper()
	if l, n, e := code.GetRow(s); len(l) != 0 || n != 0 || e != want {
		t.Errorf("GetRow(%q): %#v %d %v, not %v", s, l, n, e, want)
	}
}

// P5.2, P5.3: what was put is got, whatever stands behind it.
func TestGet(t *testing.T) {
	for _, p := range pairs() {
		for _, more := range behind() {
			got(t, p.s+more, p.v, len(p.s))
		}
	}
}

// P5.2: bytes that are cut anywhere, also ahead of the first one: they begin a value's bytes.
func TestGetCut(t *testing.T) {
	fails(t, "", api.ErrEnd)
	for _, p := range pairs() {
		for n := range len(p.s) {
			fails(t, p.s[:n], api.ErrEnd)
		}
	}
}

// P5.2: kinds that there are none of, with and without bytes behind them.
func TestGetKind(t *testing.T) {
	for kind := 6; kind < 256; kind++ {
		for _, more := range behind() {
			fails(t, string([]byte{byte(kind)})+more, api.ErrForm)
		}
	}
}

// P5.2: a Bool is 0 or 1.
func TestGetBool(t *testing.T) {
	for n := 2; n < 256; n++ {
		for _, more := range behind() {
			fails(t, string([]byte{1, byte(n)})+more, api.ErrForm)
		}
	}
}

// bytesOf has the 8 bytes of bits, the lowest one first.
func bytesOf(bits uint64) string {
	var l []byte
	for range 8 {
		l, bits = append(l, byte(bits)), bits>>8
	}
	return string(l)
}

// P5.2: bits of NaN that are not canonical: only the last byte tells that they are none.
func TestGetNaN(t *testing.T) {
	for _, bits := range nanBits() {
		s := "\x03" + bytesOf(bits)
		for _, more := range behind() {
			fails(t, s+more, api.ErrForm)
		}
		for n := range len(s) {
			fails(t, s[:n], api.ErrEnd)
		}
		got(t, "\x02"+s[1:], num(int64(bits)), 9)
	}
}

// P5.2: a length above the limit, whatever stands behind it.
func TestGetLength(t *testing.T) {
	for n := range 256 {
		for _, kind := range []byte{4, 5} {
			head, long := string([]byte{kind, byte(n)}), strings.Repeat("a", 300)
			if n > 100 {
				for _, more := range append(behind(), long[:n-1], long[:n], long[:n+1]) {
					fails(t, head+more, api.ErrForm)
				}
				continue
			}
			got(t, head+long, api.Value{Kind: kind, Text: long[:n]}, n+2)
			for k := range n {
				fails(t, head+long[:k], api.ErrEnd)
			}
		}
	}
}

// P5.2: what is not valid UTF-8 is none as a text, and is one as bytes.
func TestGetBroken(t *testing.T) {
	for _, s := range broken() {
		tail := string([]byte{byte(len(s))}) + s
		for _, more := range behind() {
			fails(t, "\x05"+tail+more, api.ErrForm)
			got(t, "\x04"+tail+more, bytes(s), len(tail)+1)
		}
	}
}

// P5.2: of a text that is cut each beginning tells by itself whether a text of so many bytes may begin so.
func TestGetCutLetters(t *testing.T) {
	for _, x := range []struct {
		s    string // what is there of the text
		n    int    // how long it has to be at least, 0 if it can't be
		most int    // and for how long it is asked
	}{
		{"\xc3", 2, 5}, {"\xe2", 3, 6}, {"\xe2\x82", 3, 6}, {"\xf0", 4, 7}, {"\xf0\x9f", 4, 7}, {"\xf0\x9f\x98", 4, 7},
		{"a\xc3", 3, 6}, {"ab\xe2", 5, 8}, {"ab\xe2\x82", 5, 8}, {"\u00e9\xf0", 6, 9}, {"\u20ac\xf0\x9f\x98", 7, 10}, {"\U0001f600\xc3", 6, 9},
		{"\xc2", 2, 4}, {"\xdf", 2, 4}, {"\xe0", 3, 5}, {"\xe0\xa0", 3, 5}, {"\xed", 3, 5}, {"\xed\x9f", 3, 5}, {"\xef\xbf", 3, 5}, {"\xf4", 4, 6}, {"\xf4\x8f", 4, 6}, {"\xf4\x8f\xbf", 4, 6},
		{"a", 1, 9}, {"\ufffd", 3, 9}, {"\U0010ffff", 4, 9},
		{"\xff", 0, 9}, {"\x80", 0, 9}, {"\xc0", 0, 9}, {"\xc1", 0, 9}, {"\xf5", 0, 9}, {"\xf8", 0, 9}, {"\xfe", 0, 9},
		{"\xc3a", 0, 9}, {"\xe2a", 0, 9}, {"\xe2\x82a", 0, 9}, {"\xf0\x9f\x98a", 0, 9}, {"\xc3\xc3", 0, 9},
		{"\xe0\x80", 0, 9}, {"\xe0\x9f", 0, 9}, {"\xed\xa0", 0, 9}, {"\xf0\x80", 0, 9}, {"\xf0\x8f", 0, 9}, {"\xf4\x90", 0, 9},
		{"a\xff", 0, 9}, {"\xffa", 0, 9}, {"\ufffd\xff", 0, 9}, {"a\xffb", 0, 9}, {"\u00e9\xa9", 0, 9}, {"\xff\xc3", 0, 9},
	} {
		for n := len(x.s) + 1; n <= x.most; n++ {
			want := api.ErrForm
			if x.n > 0 && n >= x.n {
				want = api.ErrEnd
			}
			s := string([]byte{5, byte(n)}) + x.s
			fails(t, s, want)
			failsRow(t, "\x02\x00"+s, want)
			fails(t, "\x04"+s[1:], api.ErrEnd)
		}
	}
}

// P5.2: a letter that its length leaves no room for, or just room for, at the limit.
func TestGetNoRoom(t *testing.T) {
	for _, letter := range []string{"\u00e9", "\u20ac", "\U0001f600"} {
		for head := 90; head < 100; head++ {
			for cut := 1; cut < len(letter); cut++ {
				want := api.ErrEnd
				if head+len(letter) > 100 {
					want = api.ErrForm
				}
				if s := strings.Repeat("a", head) + letter[:cut]; len(s) < 100 {
					fails(t, "\x05\x64"+s, want)
				}
			}
		}
	}
}

// beginnings has all that letters, whole ones too, begin with, and the least bytes that they have then.
func beginnings() map[string]int {
	all := map[string]int{"": 0}
	for r := rune(0); r <= 0x10ffff; r++ {
		if r >= 0xd800 && r < 0xe000 {
			continue
		}
		s := string(r)
		for n := 1; n <= len(s); n++ {
			all[s[:n]] = len(s)
		}
	}
	return all
}

// mayBegin tells whether a text of n bytes may begin with s: letter by letter, of all that there are.
func mayBegin(all map[string]int, s string, n int) bool {
	for s != "" {
		size := 0
		for k := 1; k <= min(4, len(s)) && size == 0; k++ {
			if all[s[:k]] == k {
				size = k
			}
		}
		if size == 0 {
			return all[s] > 0 && all[s] <= n
		}
		s, n = s[size:], n-size
	}
	return n >= 0
}

// P5.2: all texts of up to 3 bytes that letters' ends and beginnings make, of all lengths about theirs.
func TestGetAllLetters(t *testing.T) {
	all := beginnings()
	ask := func(s string) {
		for n := len(s); n <= len(s)+4; n++ {
			whole := string([]byte{5, byte(n)}) + s
			switch {
			case !mayBegin(all, s, n):
				fails(t, whole, api.ErrForm)
			case n > len(s):
				fails(t, whole, api.ErrEnd)
			default:
				got(t, whole, text(s), n+2)
			}
		}
	}
	edges := "a\x7f\x80\x8f\x90\x9f\xa0\xbf\xc0\xc2\xdf\xe0\xe2\xed\xef\xf0\xf1\xf4\xf5\xff"
	for a := range 256 {
		ask(string([]byte{byte(a)}))
		for b := range 256 {
			ask(string([]byte{byte(a), byte(b)}))
		}
	}
	for _, a := range []byte(edges) {
		for _, b := range []byte(edges) {
			for _, c := range []byte(edges) {
				ask(string([]byte{a, b, c}))
				for _, d := range []byte(edges) {
					ask(string([]byte{a, b, c, d}))
				}
			}
		}
	}
}

// P5.2, P5.3: rows of 1 to 8 values, whatever stands behind them, and cut anywhere.
func TestGetRow(t *testing.T) {
	failsRow(t, "", api.ErrEnd)
	for n := 1; n <= 8; n++ {
		l, s := row(n)
		for _, more := range behind() {
			gotRow(t, s+more, l, len(s))
		}
		for k := range len(s) {
			failsRow(t, s[:k], api.ErrEnd)
		}
	}
	for _, p := range pairs() {
		gotRow(t, "\x01"+p.s+"\xff", []api.Value{p.v}, len(p.s)+1)
	}
}

// P5.2: no row has 0 values, or more than 8.
func TestGetRowCount(t *testing.T) {
	for n := range 256 {
		if n >= 1 && n <= 8 {
			failsRow(t, string([]byte{byte(n)}), api.ErrEnd)
			continue
		}
		failsRow(t, string([]byte{byte(n)}), api.ErrForm)
		failsRow(t, string([]byte{byte(n)})+strings.Repeat("\x00", n), api.ErrForm)
		failsRow(t, string([]byte{byte(n)})+strings.Repeat("\x00", n)+"\x01\x00", api.ErrForm)
	}
}

// P5.2: a value that is none, wherever it stands, whether values stand behind it or not.
func TestGetRowWrong(t *testing.T) {
	wrong := []string{"\x06", "\xff", "\x01\x02", "\x03" + bytesOf(nanBits()[0]), "\x04\x65", "\x05\x65", "\x05\x01\xff", "\x05\x02\xff", "\x05\x02\xe2", "\x05\x09a\xff"}
	for n := 1; n <= 8; n++ {
		for at := range n {
			l, _ := row(n)
			s := string([]byte{byte(n)})
			for _, v := range l[:at] {
				b, _ := code.Put(v)
				s += b
			}
			for _, w := range wrong {
				failsRow(t, s+w, api.ErrForm)
				failsRow(t, s+w+strings.Repeat("\x00", n), api.ErrForm)
			}
			failsRow(t, s, api.ErrEnd)
		}
	}
}

// P5.2: each row that is got is a list of its own.
func TestGetRowNew(t *testing.T) {
	want, s := row(8)
	a, _, _ := code.GetRow(s)
	b, _, _ := code.GetRow(s)
	clear(a)
	if !slices.Equal(b, want) {
		t.Errorf("two rows share a list: %#v", b)
	}
}
