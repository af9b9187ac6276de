package disk_test

import (
	"math"
	"testing"

	"fascicle/api"
)

// P2.3: the bytes from off on, n at most; none at the end and behind it.
func TestRead(t *testing.T) {
	d := made(t)
	text := "abcd"
	for off := range 7 {
		for n := range 7 {
			want := ""
			for i := off; i < off+n && i < len(text); i++ {
				want += text[i : i+1]
			}
			if s, e := d.Read("a", off, n); s != want || e != api.OK {
				t.Errorf("Read(a, %d, %d): %q %v, not %q", off, n, s, e, want)
			}
		}
	}
	for _, x := range []struct {
		off, n int
		want   string
	}{{0, math.MaxInt, "abcd"}, {1, math.MaxInt, "bcd"}, {4, math.MaxInt, ""}, {math.MaxInt, 1, ""}, {math.MaxInt, math.MaxInt, ""}, {math.MaxInt, 0, ""}} {
		if s, e := d.Read("a", x.off, x.n); s != x.want || e != api.OK {
			t.Errorf("Read(a, %d, %d): %q %v", x.off, x.n, s, e)
		}
	}
}

// P2.3: a file without bytes has none to read, and the size 0.
func TestReadEmpty(t *testing.T) {
	d := fresh(t, 0)
	fine(t, d.Append("a", ""))
	for _, k := range []int{0, 1, math.MaxInt} {
		if s, e := d.Read("a", k, k); s != "" || e != api.OK {
			t.Errorf("Read(a, %d, %d): %q %v", k, k, s, e)
		}
	}
	if n, e := d.Size("a"); n != 0 || e != api.OK {
		t.Errorf("%d %v", n, e)
	}
}

// P2.3: below 0 is ErrArg, also of a file that is not there, which is ErrNone else.
func TestReadWrong(t *testing.T) {
	d := made(t)
	for _, x := range []struct{ off, n int }{{-1, 0}, {0, -1}, {-1, -1}, {math.MinInt, 9}, {9, math.MinInt}, {-1, math.MaxInt}} {
		for _, name := range []string{"a", "none", "", "A"} {
			if s, e := d.Read(name, x.off, x.n); s != "" || e != api.ErrArg {
				t.Errorf("Read(%q, %d, %d): %q %v, not ErrArg", name, x.off, x.n, s, e)
			}
		}
	}
	if s, e := d.Read("none", 0, 0); s != "" || e != api.ErrNone {
		t.Errorf("%q %v", s, e)
	}
	if n, e := d.Size("none"); n != 0 || e != api.ErrNone {
		t.Errorf("%d %v", n, e)
	}
	if n, e := d.Size("A"); n != 0 || e != api.ErrArg {
		t.Errorf("%d %v", n, e)
	}
}

// P2.3: loose calls count, whatever they are.
func TestReadLoose(t *testing.T) {
	d := made(t)
	fine(t, d.Room(99), d.Append("a", "x"), d.Append("c", "y"), d.Truncate("b", 1))
	has(t, d, "a:abcdx b:e c:y")
	fine(t, d.Rename("a", "z"), d.Remove("b"))
	has(t, d, "c:y z:abcdx")
	for _, name := range []string{"a", "b"} {
		if s, e := d.Read(name, 0, 9); s != "" || e != api.ErrNone {
			t.Errorf("%q %v", s, e)
		}
		if n, e := d.Size(name); n != 0 || e != api.ErrNone {
			t.Errorf("%d %v", n, e)
		}
	}
}

// P2.3: what was read stays what it was, whatever is done to the file then.
func TestReadStays(t *testing.T) {
	d := made(t)
	s, e := d.Read("a", 0, 9)
	fine(t, e, d.Flip("a", 0, 1), d.Truncate("a", 1), d.Append("a", "XYZ"), d.Crash(0, 0), d.Flip("a", 1, 1))
	if s != "abcd" {
		t.Errorf("%q", s)
	}
}
