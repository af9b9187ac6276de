package mem_test

import (
	"fmt"
	"math"
	"math/rand"
	"slices"
	"strings"
	"testing"
	"unsafe"

	"fascicle/api"
	"fascicle/mem"
)

// pair is a key with a value.
func pair(key, value string) api.Pair { return api.Pair{Key: key, Value: value} }

// gone is a key of which there is none any more.
func gone(key string) api.Pair { return api.Pair{Key: key, Gone: true} }

// letters is a text of n bytes, of all kinds.
func letters(n int) string {
	b := make([]byte, n)
	rand.New(rand.NewSource(int64(n))).Read(b)
	return string(b)
}

// short is a text as it is told where a test failed.
func short(s string) string {
	if len(s) > 20 {
		return fmt.Sprintf("%q and %d bytes more", s[:20], len(s)-20)
	}
	return fmt.Sprintf("%q", s)
}

// shown has pairs as they are told where a test failed.
func shown(l ...api.Pair) string {
	var b strings.Builder
	for _, p := range l[:min(len(l), 30)] {
		fmt.Fprintf(&b, "%s %s %v; ", short(p.Key), short(p.Value), p.Gone)
	}
	return fmt.Sprintf("%d pairs: %s", len(l), b.String())
}

// puts fails the test unless each of these pairs may be, and is put.
func puts(t *testing.T, m *mem.Mem, l ...api.Pair) {
	t.Helper()
	for _, p := range l {
		if a, b := mem.Check(p), m.Put(p); a != api.OK || b != api.OK {
			t.Fatalf("Check and Put of %s: %v %v", shown(p), a, b)
		}
	}
}

// refuses fails the test unless p may not be, and Put tells it, and m has what it had.
func refuses(t *testing.T, m *mem.Mem, p api.Pair) {
	t.Helper()
	before := m.Scan("", "", math.MaxInt)
	if a, b := mem.Check(p), m.Put(p); a != api.ErrArg || b != api.ErrArg {
		t.Fatalf("Check and Put of %s: %v %v, not ErrArg", shown(p), a, b)
	}
	holds(t, m, before...)
}

// laid is a mem with these pairs, put in this order.
func laid(t *testing.T, l ...api.Pair) *mem.Mem {
	t.Helper()
	m := mem.New()
	if m == nil {
		t.Fatal("New: none")
	}
	puts(t, m, l...)
	return m
}

// gets fails the test unless Get answers this pair, by its key.
func gets(t *testing.T, m *mem.Mem, want api.Pair) {
	t.Helper()
	if p, is := m.Get(want.Key); p != want || !is {
		t.Fatalf("Get of %s: %s %v, not %s", short(want.Key), shown(p), is, shown(want))
	}
}

// misses fails the test unless Get answers that none of these keys has a pair.
func misses(t *testing.T, m *mem.Mem, keys ...string) {
	t.Helper()
	for _, key := range keys {
		if p, is := m.Get(key); p != (api.Pair{}) || is {
			t.Fatalf("Get of %s: %s %v, not none", short(key), shown(p), is)
		}
	}
}

// scans fails the test unless Scan answers these pairs.
func scans(t *testing.T, m *mem.Mem, from, to string, most int, want ...api.Pair) {
	t.Helper()
	if l := m.Scan(from, to, most); !slices.Equal(l, want) {
		t.Fatalf("Scan from %s to %s, %d: %s, not %s", short(from), short(to), most, shown(l...), shown(want...))
	}
}

// holds fails the test unless m has just these pairs, which stand in order.
func holds(t *testing.T, m *mem.Mem, want ...api.Pair) {
	t.Helper()
	size := 0
	for _, p := range want {
		size += len(p.Key) + len(p.Value)
		gets(t, m, p)
	}
	if m.Len() != len(want) || m.Size() != size {
		t.Fatalf("Len %d, Size %d, not %d, %d", m.Len(), m.Size(), len(want), size)
	}
	scans(t, m, "", "", math.MaxInt, want...)
}

// P9.1, P9.2: what a new mem has.
func TestNew(t *testing.T) {
	m := laid(t)
	holds(t, m)
	misses(t, m, "", "a", "\x00", "\xff", letters(api.MaxKey), letters(api.MaxKey+1))
	for _, most := range []int{math.MinInt, -1, 0, 1, math.MaxInt} {
		scans(t, m, "", "", most)
		scans(t, m, "a", "b", most)
	}
	m.Clear()
	holds(t, m)
}

// P9.1, P9.2, R2, R3: what no mem answers, whatever it is given.
func TestNil(t *testing.T) {
	var m *mem.Mem
	for _, p := range []api.Pair{pair("a", "1"), gone("a"), {}, {Key: "a", Value: "1", Gone: true}, pair(letters(api.MaxKey+1), ""), pair("a", letters(api.MaxVal+1))} {
		if e := m.Put(p); e != api.ErrNil {
			t.Errorf("Put of %s: %v", shown(p), e)
		}
	}
	misses(t, m, "", "a", "\xff")
	for _, most := range []int{math.MinInt, -1, 0, 1, math.MaxInt} {
		scans(t, m, "", "", most)
		scans(t, m, "a", "b", most)
	}
	m.Clear()
	holds(t, m)
}

// The chapter's examples.
func TestExamples(t *testing.T) {
	m := laid(t, pair("b", "1"), gone("a"), pair("b", "2"))
	scans(t, m, "", "", 9, gone("a"), pair("b", "2"))
	misses(t, m, "c")
	if m.Len() != 2 || m.Size() != 3 {
		t.Errorf("Len %d, Size %d", m.Len(), m.Size())
	}
	scans(t, m, "b", "", 0)
}

// P9.1: keys and values of each length at the limits, of pairs that are gone and of others.
func TestLimits(t *testing.T) {
	for _, key := range []int{0, 1, 2, api.MaxKey - 1, api.MaxKey, api.MaxKey + 1, 2 * api.MaxKey, api.MaxVal} {
		for _, value := range []int{0, 1, api.MaxKey + 1, api.MaxVal - 1, api.MaxVal, api.MaxVal + 1, 2 * api.MaxVal} {
			for _, is := range []bool{false, true} {
				p := api.Pair{Key: letters(key), Value: letters(value), Gone: is}
				may := key >= 1 && key <= api.MaxKey && value <= api.MaxVal && (!is || value == 0)
				m := laid(t, pair("a", "1"))
				if !may {
					refuses(t, m, p)
					continue
				}
				puts(t, m, p)
				gets(t, m, p)
				if m.Len() != 2 || m.Size() != 2+key+value {
					t.Errorf("%s: Len %d, Size %d", shown(p), m.Len(), m.Size())
				}
			}
		}
	}
}

// P9.1: what is refused changes nothing, whether its key is there, gone or not there.
func TestRefused(t *testing.T) {
	long, longest := letters(api.MaxKey+1), letters(api.MaxVal+1)
	m := laid(t, pair("a", "1"), pair("b", ""), gone("c"), pair(long[:api.MaxKey], "x"))
	for range 2 {
		for _, key := range []string{"", "a", "b", "c", "d", "\xff", long[:api.MaxKey]} {
			refuses(t, m, pair(key, longest))
			refuses(t, m, api.Pair{Key: key, Value: "1", Gone: true})
			refuses(t, m, api.Pair{Key: key, Value: longest, Gone: true})
		}
		for _, key := range []string{"", long, longest} {
			refuses(t, m, pair(key, ""))
			refuses(t, m, pair(key, "1"))
			refuses(t, m, gone(key))
		}
		misses(t, m, "", "d", "\xff", long, longest)
		puts(t, m, pair("a", "2"))
	}
}

// P9.1: each byte is a key, and a value, and stands where it has to.
func TestBytes(t *testing.T) {
	var want []api.Pair
	for i := range 256 {
		s := string([]byte{byte(i)})
		want = append(want, pair(s, s))
	}
	l := slices.Clone(want)
	rand.New(rand.NewSource(1)).Shuffle(len(l), func(i, j int) { l[i], l[j] = l[j], l[i] })
	holds(t, laid(t, l...), want...)
}

// P9.1, P9.2, P9.3: a key that is put again, with another value, of another length, as gone, and with a value again.
func TestPutAgain(t *testing.T) {
	long := letters(api.MaxVal)
	m := laid(t, pair("a", "1"), gone("c"))
	for _, p := range []api.Pair{
		pair("b", "1"), pair("b", "1"), pair("b", "2"), pair("b", "long"), pair("b", "xy"), pair("b", ""), pair("b", ""), pair("b", "\x00"),
		gone("b"), gone("b"), pair("b", ""), gone("b"), pair("b", "again"), pair("b", long), pair("b", "b"), pair("b", long), gone("b"), pair("b", long[1:]),
	} {
		puts(t, m, p)
		holds(t, m, pair("a", "1"), p, gone("c"))
	}
	puts(t, m, gone("a"), gone("b"))
	holds(t, m, gone("a"), gone("b"), gone("c"))
	puts(t, m, pair("c", "3"), pair("a", "4"), pair("c", "567"))
	holds(t, m, pair("a", "4"), gone("b"), pair("c", "567"))
}

// P9.1: keys that are near one that is there have no pair.
func TestGetNone(t *testing.T) {
	m := laid(t, pair("ab", "1"), gone("cd"), pair("\x00\x00", "2"), pair("\xff\xff", "3"))
	misses(t, m, "", "a", "b", "aa", "ac", "abc", "ab\x00", "ab ", "AB", "c", "d", "cd\x00", "\x00", "\x00\x00\x00", "\x00\x01", "\xff", "\xff\xff\xff", "\xff\xfe", letters(api.MaxVal))
	gets(t, m, pair("ab", "1"))
	gets(t, m, gone("cd"))
	gets(t, m, pair("\x00\x00", "2"))
	gets(t, m, pair("\xff\xff", "3"))
}

// P9.2: nothing is there behind a Clear, and what is put then is all that there is.
func TestClear(t *testing.T) {
	l := []api.Pair{pair("a", "1"), gone("b"), pair("c", ""), pair("d", letters(100))}
	m := laid(t, l...)
	for n := range 3 {
		m.Clear()
		holds(t, m)
		misses(t, m, "a", "b", "c", "d")
		scans(t, m, "a", "c", 1)
		if n == 1 {
			m.Clear()
			holds(t, m)
		}
		puts(t, m, pair("b", "2"))
		holds(t, m, pair("b", "2"))
		misses(t, m, "a", "c", "d")
		puts(t, m, l[2], l[0], l[3])
		holds(t, m, l[0], pair("b", "2"), l[2], l[3])
		refuses(t, m, pair("", ""))
	}
}

// P9.1, P9.2: what is done to one mem is not seen in another one.
func TestTwo(t *testing.T) {
	one, two := laid(t), laid(t)
	puts(t, one, pair("a", "1"), pair("b", "2"))
	holds(t, two)
	puts(t, two, gone("a"), pair("c", "3"))
	holds(t, one, pair("a", "1"), pair("b", "2"))
	holds(t, two, gone("a"), pair("c", "3"))
	one.Clear()
	holds(t, one)
	holds(t, two, gone("a"), pair("c", "3"))
	puts(t, one, pair("c", "4"))
	two.Clear()
	holds(t, one, pair("c", "4"))
	holds(t, two)
}

// shared tells whether two texts have a byte of memory in common.
func shared(a, b string) bool {
	if a == "" || b == "" {
		return false
	}
	x, y := uintptr(unsafe.Pointer(unsafe.StringData(a))), uintptr(unsafe.Pointer(unsafe.StringData(b)))
	return x < y+uintptr(len(b)) && y < x+uintptr(len(a))
}

// R5: a mem keeps none of the memory of what was put, nor of what it was asked, whether the key was there or not.
func TestPutApart(t *testing.T) {
	m := laid(t)
	for _, at := range []int{0, 4, 9} {
		long := strings.Clone("key and value, cut out of a longer text")
		long = long[:at] + "key" + long[at:]
		key, value := long[at:at+3], long[at+3:]
		puts(t, m, pair(key, value))
		p, is := m.Get(key)
		if !is || shared(p.Key, long) || shared(p.Value, long) {
			t.Errorf("Get: %s %v, of the memory of %q", shown(p), is, long)
		}
		for _, p := range m.Scan(key, "", 1) {
			if shared(p.Key, long) || shared(p.Value, long) {
				t.Errorf("Scan: %s, of the memory of %q", shown(p), long)
			}
		}
	}
}
