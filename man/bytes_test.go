package man_test

import (
	"math"
	"math/rand"
	"slices"
	"strings"
	"testing"

	"fascicle/api"
	"fascicle/man"
)

// gets fails the test unless Get answers this man.
func gets(t *testing.T, s string, want api.Man) {
	t.Helper()
	if m, e := man.Get(s); !equal(m, want) || e != api.OK {
		t.Fatalf("Get of %s: %v %v, not %v", short(s), m, e, want)
	}
}

// fails fails the test unless Get tells that error of each of these, and nothing else.
func fails(t *testing.T, want api.Errno, l ...string) {
	t.Helper()
	for _, s := range l {
		if m, e := man.Get(s); !equal(m, api.Man{}) || e != want {
			t.Fatalf("Get of %s: %v %v, not %v", short(s), m, e, want)
		}
	}
}

// P11.1: the bytes of some mans, written out.
func TestPutBytes(t *testing.T) {
	for _, x := range []struct {
		m    api.Man
		want string
	}{
		{of(1, 2), "\x18\x00\x00\x00\x6c\xa0\xe9\xb4\x64\x8a\x44\xa5" +
			"\x01\x00\x00\x00\x00\x00\x00\x00" + "\x02\x00\x00\x00\x00\x00\x00\x00" + "\x00\x00\x00\x00\x00\x00\x00\x00"},
		{of(2, 772, 1), "\x20\x00\x00\x00\x22\x70\x76\x81\xd5\x6e\xee\x5c" +
			"\x02\x00\x00\x00\x00\x00\x00\x00" + "\x04\x03\x00\x00\x00\x00\x00\x00" + "\x01\x00\x00\x00\x00\x00\x00\x00" + "\x01\x00\x00\x00\x00\x00\x00\x00"},
		{of(3, most, 5, 0xfffffffffe, 4), "\x30\x00\x00\x00\xbd\x27\x6f\xd1\x5a\x38\x87\x55" +
			"\x03\x00\x00\x00\x00\x00\x00\x00" + "\x00\x00\x00\x00\x00\x01\x00\x00" + "\x03\x00\x00\x00\x00\x00\x00\x00" +
			"\x05\x00\x00\x00\x00\x00\x00\x00" + "\xfe\xff\xff\xff\xff\x00\x00\x00" + "\x04\x00\x00\x00\x00\x00\x00\x00"},
	} {
		if s, e := man.Put(x.m); s != x.want || e != api.OK {
			t.Errorf("Put of %v: %q %v, not %q", x.m, s, e, x.want)
		}
		if made := bytesOf(x.m); made != x.want {
			t.Errorf("the test's own bytes of %v: %q, not %q", x.m, made, x.want)
		}
		gets(t, x.want, x.m)
	}
}

// P11.1: what was put is got; of a man that may not be nothing is put.
func TestPut(t *testing.T) {
	for _, m := range mans() {
		s, e := man.Put(m)
		if s != bytesOf(m) || e != api.OK {
			t.Fatalf("Put of %v: %s %v", m, short(s), e)
		}
		gets(t, s, m)
	}
	for _, m := range wrongMans() {
		if s, e := man.Put(m); s != "" || e != api.ErrArg {
			t.Fatalf("Put of %v: %s %v", m, short(s), e)
		}
	}
}

// P11.1: each cut of a man's bytes is torn; no bytes at all are none of the kind.
func TestGetCut(t *testing.T) {
	for _, m := range mans() {
		s := bytesOf(m)
		for n := 1; n < len(s); n++ {
			fails(t, api.ErrTorn, s[:n])
		}
	}
	fails(t, api.ErrForm, "")
}

// P11.1: bytes behind a man's: the frames' error, or, where these are frames too, ErrForm.
func TestGetBehind(t *testing.T) {
	for _, m := range few() {
		s := bytesOf(m)
		for n := 1; n <= 30; n++ {
			if n < 8 {
				fails(t, api.ErrTorn, s+letters(n), s+s[:n], s+strings.Repeat("\x00", n))
			} else {
				fails(t, api.ErrBad, s+letters(n), s+strings.Repeat("\x00", n))
			}
		}
		for n := 1; n < len(s); n++ {
			fails(t, api.ErrTorn, s+s[:n])
		}
		fails(t, api.ErrForm, s+s, s+s+s, s+framed(""), framed("")+s, s+framed("x"), framed("x")+s, s+bytesOf(of(1, 2)), bytesOf(of(1, 2))+s)
	}
}

// P11.1: each bit of a man's bytes turned: they are bad.
func TestGetBits(t *testing.T) {
	for _, m := range few() {
		s := bytesOf(m)
		for i := range s {
			for bit := range 8 {
				b := []byte(s)
				b[i] ^= 1 << bit
				fails(t, api.ErrBad, string(b), string(b)+s)
			}
		}
	}
}

// P11.1: a frame whose count is more than a text may have is bad, not form.
func TestGetLong(t *testing.T) {
	fails(t, api.ErrForm, framed(strings.Repeat("\x00", api.MaxFrame)), framed(text(1, most, api.MaxFrame/8-3)+strings.Repeat("\x01", api.MaxFrame-24)))
	fails(t, api.ErrBad, framed(strings.Repeat("\x00", api.MaxFrame+1)))
}

// P11.1: whole frames whose text is no man's, by its count of bytes: ErrForm.
func TestGetForm(t *testing.T) {
	fails(t, api.ErrForm, framed(""), framed("x"), framed(text(1)), framed(text(1, 2)), framed(text(1, 3, 1)), framed(letters(24)), framed(letters(3000)))
	for _, m := range mans() {
		s := textOf(m)
		for n := range len(s) {
			fails(t, api.ErrForm, framed(s[:n]))
		}
		for n := 1; n <= 40; n++ {
			fails(t, api.ErrForm, framed(s+letters(n)), framed(s+strings.Repeat("\x00", n)), framed(letters(n)+s))
		}
		fails(t, api.ErrForm, framed(s+s), framed(s+text(most-5)), framed(s+text(0)))
	}
}

// P11.1: a count that is not how many runs there are: ErrForm.
func TestGetCount(t *testing.T) {
	for n := range 6 {
		runs := text(rising(2, n)...)
		for _, count := range []uint64{0, 1, 2, 3, 4, 5, 6, api.MaxRuns, api.MaxRuns + 1, 1 << 32, 1<<32 + uint64(n), 1 << 61, 1<<61 + uint64(n), 1 << 63, 1<<63 + uint64(n), math.MaxUint64, uint64(8 * n), uint64(n) << 56, uint64(n) + 256} {
			s := framed(text(1, 100, count) + runs)
			if count == uint64(n) {
				gets(t, s, of(1, 100, rising(2, n)...))
			} else {
				fails(t, api.ErrForm, s)
			}
		}
	}
}

// P11.1: whole frames of mans that may not be: ErrForm.
func TestGetWrong(t *testing.T) {
	for _, m := range wrongMans() {
		fails(t, api.ErrForm, bytesOf(m))
	}
	r := rand.New(rand.NewSource(12))
	for range 5000 {
		if m := anyMan(r); mayBe(m) {
			gets(t, bytesOf(m), m)
		} else {
			fails(t, api.ErrForm, bytesOf(m))
		}
	}
}

// P11.1: any bytes, whole frames of any small numbers: Get answers a man just where Put answers these bytes of it.
func TestGetAny(t *testing.T) {
	r := rand.New(rand.NewSource(13))
	found := 0
	for range 20000 {
		l := make([]uint64, 2+r.Intn(5))
		for i := range l {
			l[i] = uint64(r.Intn(5))
		}
		s := framed(text(l...))
		if r.Intn(10) == 0 {
			s = framed(text(l...) + letters(r.Intn(8)))
		}
		m, e := man.Get(s)
		if e != api.OK {
			continue
		}
		found++
		if back, e := man.Put(m); back != s || e != api.OK {
			t.Fatalf("Get of %q: %v, whose bytes are %q %v", s, m, back, e)
		}
	}
	if found < 50 {
		t.Fatalf("%d mans: too few", found)
	}
}

// P11.1, R5: a man that was given or got shares no memory with what is changed later.
func TestBytesShare(t *testing.T) {
	m := of(1, 9, 2, 3, 4)
	s, e := man.Put(m)
	fine(t, e)
	got, e := man.Get(s)
	fine(t, e)
	again, e := man.Get(s)
	fine(t, e)
	m.Runs[0], got.Runs[1] = 7, 8
	if s != bytesOf(of(1, 9, 2, 3, 4)) || !equal(got, of(1, 9, 2, 8, 4)) || !equal(again, of(1, 9, 2, 3, 4)) {
		t.Fatalf("%q %v %v", s, got, again)
	}
	gets(t, s, of(1, 9, 2, 3, 4))

	// What stands behind the runs' end is left as it was.
	all := []uint64{9, 8, 7, 6, 5}
	part := api.Man{Wal: 1, Next: 10, Runs: all[:2]}
	fine(t, man.Check(part))
	if s, e := man.Put(part); s != bytesOf(of(1, 10, 9, 8)) || e != api.OK {
		t.Fatalf("%q %v", s, e)
	}
	if !slices.Equal(all, []uint64{9, 8, 7, 6, 5}) {
		t.Fatalf("%v", all)
	}
}
