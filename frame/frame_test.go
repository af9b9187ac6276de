package frame_test

import (
	"encoding/binary"
	"hash/crc32"
	"math/rand"
	"slices"
	"strings"
	"testing"
	"unsafe"

	"fascicle/api"
	"fascicle/frame"
)

// letters is a text of n bytes, of all kinds.
func letters(n int) string {
	b := make([]byte, n)
	rand.New(rand.NewSource(int64(n))).Read(b)
	return string(b)
}

// head is what stands ahead of a text: a count beside its right sum, and a text's sum.
func head(count, sum uint32) string {
	b := binary.LittleEndian.AppendUint32(nil, count)
	b = binary.LittleEndian.AppendUint32(b, crc32.ChecksumIEEE(b))
	return string(binary.LittleEndian.AppendUint32(b, sum))
}

// framed has the frames of texts as the chapter's words say, whatever their lengths.
func framed(l ...string) string {
	var b []byte
	for _, s := range l {
		b = append(b, head(uint32(len(s)), crc32.ChecksumIEEE([]byte(s)))...)
		b = append(b, s...)
	}
	return string(b)
}

// puts asks that All tells the frames of texts and, of a single one, that Put does.
func puts(t *testing.T, l ...string) {
	t.Helper()
	want := framed(l...)
	if s, e := frame.All(l...); s != want || e != api.OK {
		t.Errorf("All of %d texts: %d bytes, %v, not %d", len(l), len(s), e, len(want))
	}
	if len(l) != 1 {
		return
	}
	if s, e := frame.Put(l[0]); s != want || e != api.OK {
		t.Errorf("Put of %d bytes: %d bytes, %v, not %d", len(l[0]), len(s), e, len(want))
	}
}

// P7.1: frames that are written out.
func TestPutKnown(t *testing.T) {
	for _, x := range []struct{ s, want string }{
		{"", "\x00\x00\x00\x00\x1c\xdf\x44\x21\x00\x00\x00\x00"},
		{"a", "\x01\x00\x00\x00\x79\xb8\xf8\x99\x43\xbe\xb7\xe8a"},
		{"\x00", "\x01\x00\x00\x00\x79\xb8\xf8\x99\x8d\xef\x02\xd2\x00"},
		{"\xff", "\x01\x00\x00\x00\x79\xb8\xf8\x99\x00\x00\x00\xff\xff"},
		{"\x00\xff", "\x02\x00\x00\x00\x97\x17\x4d\x8b\x72\xfd\xdb\x6c\x00\xff"},
		{"123456789", "\x09\x00\x00\x00\x96\x90\x4c\x5c\x26\x39\xf4\xcb123456789"},
		{strings.Repeat("a", 256), "\x00\x01\x00\x00\x2b\xb5\x86\x20\x59\x36\x7d\xb0" + strings.Repeat("a", 256)},
		{strings.Repeat("\x00", 1<<22), "\x00\x00\x40\x00\x19\x90\x3d\xd1\x6a\x40\x47\x11" + strings.Repeat("\x00", 1<<22)},
	} {
		if s, e := frame.Put(x.s); s != x.want || e != api.OK {
			t.Errorf("Put of %d bytes: %d bytes, %v, not %d", len(x.s), len(s), e, len(x.want))
		}
		if s, e := frame.All(x.s); s != x.want || e != api.OK {
			t.Errorf("All of a text of %d bytes: %d bytes, %v, not %d", len(x.s), len(s), e, len(x.want))
		}
	}
}

// P7.1: the frame of each byte, of texts of each byte's count, and of some longer ones.
func TestPut(t *testing.T) {
	for b := range 256 {
		puts(t, string([]byte{byte(b)}))
		puts(t, string([]byte{byte(b), 0, byte(b)}))
	}
	for n := range 300 {
		puts(t, letters(n))
	}
	for _, n := range []int{1 << 10, 1<<16 - 1, 1 << 16, 1<<16 + 1} {
		puts(t, letters(n))
	}
	puts(t, "a\u00e9\u20ac")
	puts(t, framed("a", ""))
}

// P7.1: the longest text has a frame, a longer one has none.
func TestPutLongest(t *testing.T) {
	longest := letters(api.MaxFrame)
	puts(t, longest)
	puts(t, longest[1:])
	puts(t, "a", longest, longest, "b")
	for _, s := range []string{longest + "a", strings.Repeat("\x00", api.MaxFrame+1), longest + longest} {
		if got, e := frame.Put(s); got != "" || e != api.ErrLong {
			t.Errorf("Put of %d bytes: %d bytes, %v, not ErrLong", len(s), len(got), e)
		}
	}
}

// P7.1: the frames of no text, of one, of several, of empty ones among them, stand one behind the other.
func TestAll(t *testing.T) {
	if s, e := frame.All(); s != "" || e != api.OK {
		t.Errorf("All of no text: %q %v", s, e)
	}
	if s, e := frame.All([]string{}...); s != "" || e != api.OK {
		t.Errorf("All of a list without texts: %q %v", s, e)
	}
	for _, l := range lists() {
		puts(t, l...)
		want := ""
		for _, s := range l {
			one, _ := frame.Put(s)
			want += one
		}
		if s, e := frame.All(l...); s != want || e != api.OK {
			t.Errorf("All of %q: %q %v, not what Put tells of each", l, s, e)
		}
	}
	const a, b = "\x01\x00\x00\x00\x79\xb8\xf8\x99\x43\xbe\xb7\xe8a", "\x01\x00\x00\x00\x79\xb8\xf8\x99\xf9\xef\xbe\x71b"
	const none = "\x00\x00\x00\x00\x1c\xdf\x44\x21\x00\x00\x00\x00"
	if s, e := frame.All("a", "", "b"); s != a+none+b || e != api.OK {
		t.Errorf("All of a, none, b: %q %v", s, e)
	}
}

// lists has lists of texts: of none, of one, of several, of empty ones at each place.
func lists() [][]string {
	return [][]string{
		nil, {""}, {"a"}, {"\x00"}, {"\xff"}, {"\x00\xff"}, {"", ""}, {"", "", ""},
		{"a", "b"}, {"b", "a"}, {"a", "a"}, {"", "a"}, {"a", ""}, {"a", "", "b"}, {"", "a", "", "", "b", ""},
		{"\x00\x00\x00\x00", "\xff\xff\xff\xff\xff\xff\xff\xff"}, {framed("a"), framed(""), framed("a", "b")},
		{letters(7), letters(8), letters(9)}, {letters(300), "", letters(256), letters(255)},
		slices.Repeat([]string{"", "x"}, 40),
	}
}

// P7.1: a text that is too long, at each place, and all of them.
func TestAllLong(t *testing.T) {
	long := strings.Repeat("a", api.MaxFrame+1)
	for n := 1; n <= 4; n++ {
		for at := range n {
			l := slices.Repeat([]string{"b"}, n)
			l[at] = long
			if s, e := frame.All(l...); s != "" || e != api.ErrLong {
				t.Errorf("the text %d of %d is too long: %d bytes, %v, not ErrLong", at, n, len(s), e)
			}
			l[at] = long[1:]
			puts(t, l...)
		}
		if s, e := frame.All(slices.Repeat([]string{long}, n)...); s != "" || e != api.ErrLong {
			t.Errorf("%d texts that are too long: %d bytes, %v, not ErrLong", n, len(s), e)
		}
	}
}

// P7.1: texts together may be longer than one may be.
func TestAllTogether(t *testing.T) {
	half := letters(api.MaxFrame/2 + 1)
	puts(t, half, half, half)
	puts(t, half+half[:api.MaxFrame/2-1], "", half)
}

// shared tells whether two texts have a byte of memory in common.
func shared(a, b string) bool {
	if a == "" || b == "" {
		return false
	}
	x, y := uintptr(unsafe.Pointer(unsafe.StringData(a))), uintptr(unsafe.Pointer(unsafe.StringData(b)))
	return x < y+uintptr(len(b)) && y < x+uintptr(len(a))
}

// apart asks that no two answers share memory, and none of them with what was handed in.
func apart(t *testing.T, answers, given []string) {
	t.Helper()
	for i, a := range answers {
		for _, other := range append(answers[:i:i], given...) {
			if shared(a, other) {
				t.Errorf("%q shares memory with %q", a, other)
			}
		}
	}
}

// P7.1, R5: what is put shares no memory with the texts, nor with what was put before; the list is as it was, and isn't kept.
func TestPutApart(t *testing.T) {
	for _, l := range lists() {
		before := slices.Clone(l)
		one, _ := frame.All(l...)
		two, _ := frame.All(l...)
		if !slices.Equal(l, before) {
			t.Errorf("All of %q: the list is %q", before, l)
		}
		answers := []string{one, two}
		for _, s := range l {
			put, _ := frame.Put(s)
			answers = append(answers, put)
		}
		apart(t, answers, l)
		for i := range l {
			l[i] = "another one"
		}
		if want := framed(before...); one != want || two != want {
			t.Errorf("All of %q: %q and %q, once the list is another one", before, one, two)
		}
	}
}
