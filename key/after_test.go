package key_test

import (
	"strings"
	"testing"

	"fascicle/key"
)

// P6.2: what stands ahead of bytes 255 is raised; of these alone, and of no bytes, there is none.
func TestAfter(t *testing.T) {
	for _, x := range []struct {
		s, want string
		is      bool
	}{
		{"", "", false}, {"\xff", "", false}, {"\xff\xff", "", false}, {repeat("\xff", 1000), "", false},
		{"\x00", "\x01", true}, {"\x00\x00", "\x00\x01", true}, {"a\x00", "a\x01", true},
		{"a", "b", true}, {"aa", "ab", true}, {"a\x7f", "a\x80", true}, {"\x7f", "\x80", true}, {"\xc3\xa9", "\xc3\xaa", true},
		{"\xfe", "\xff", true}, {"a\xfe", "a\xff", true}, {"\xff\xfe", "\xff\xff", true}, {"\xff\x00", "\xff\x01", true}, {"\xff\xffa", "\xff\xffb", true},
		{"a\xff", "b", true}, {"a\xff\xff", "b", true}, {"a\xfe\xff", "a\xff", true}, {"\xfe\xff", "\xff", true}, {"\x00\xff", "\x01", true},
		{"a\x00\xff\xff", "a\x01", true}, {"a\xff\x00", "a\xff\x01", true}, {"a\xff\xff\xff" + "b", "a\xff\xff\xffc", true},
		{"\xef\xbf\xbd", "\xef\xbf\xbe", true}, {"\xef\xbf\xbd\xff", "\xef\xbf\xbe", true}, {"a\xc3", "a\xc4", true}, {"a\x80\xff", "a\x81", true}, {"\xef\xbf\xbf\xff", "\xef\xbf\xc0", true},
		{"a" + repeat("\xff", 1000), "b", true}, {repeat("\xff", 1000) + "a", repeat("\xff", 1000) + "b", true}, {repeat("z", 1000), repeat("z", 999) + "{", true},
	} {
		if s, is := key.After(x.s); s != x.want || is != x.is {
			t.Errorf("After(%q): %q %t, not %q %t", x.s, s, is, x.want, x.is)
		}
	}
}

// P6.2: each last byte, alone and behind others.
func TestAfterLast(t *testing.T) {
	for b := range 255 {
		last, next := string([]byte{byte(b)}), string([]byte{byte(b) + 1})
		for _, head := range []string{"", "a", "\x00", "\xff", "\xfe\xff"} {
			for n := range 3 {
				if s, is := key.After(head + last + repeat("\xff", n)); s != head+next || !is {
					t.Errorf("After(%q and %d bytes 255): %q %t", head+last, n, s, is)
				}
			}
		}
	}
}

// few has all texts of at most n of some bytes.
func few(n int) []string {
	l := []string{""}
	for done := 0; n > 0; n-- {
		end := len(l)
		for _, s := range l[done:end] {
			for _, b := range []string{"\x00", "\x01", "\x02", "a", "\xfe", "\xff"} {
				l = append(l, s+b)
			}
		}
		done = end
	}
	return l
}

// P6.2: what After tells is above all that begin with a text, and no lesser one is; where it tells none, none is.
func TestAfterLeast(t *testing.T) {
	all := few(4)
	for _, s := range few(3) {
		after, is := key.After(s)
		if strings.HasPrefix(after, s) && is {
			t.Errorf("After(%q): %q begins with it", s, after)
		}
		high := s + repeat("\xff", 8) // above all that begin with s, of all texts that are as short as these
		for _, x := range all {
			if strings.HasPrefix(x, s) && is && x >= after {
				t.Errorf("After(%q): %q, not above %q", s, after, x)
			}
			if (!is || x < after) && x > high {
				t.Errorf("After(%q): %q %t, though %q is above all", s, after, is, x)
			}
		}
	}
}

// P6.2, P6.3: the keys of the rows that begin with some values are those from theirs on, below what After tells of it.
func TestAfterKeys(t *testing.T) {
	all := rows()
	for _, head := range all {
		from, _ := key.Put(head...)
		to, is := key.After(from)
		if is != (len(head) > 0) {
			t.Errorf("After(%q): %q %t", from, to, is)
		}
		for _, l := range all {
			s, _ := key.Put(l...)
			if within := s >= from && (!is || s < to); within != begins(head, l) {
				t.Errorf("%q from %q to %q: %t", s, from, to, within)
			}
		}
	}
}
