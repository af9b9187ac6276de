package frame_test

import (
	"encoding/binary"
	"hash/crc32"
	"math/rand"
	"slices"
	"testing"

	"fascicle/api"
	"fascicle/frame"
)

// P7.3: any beginning of frames is told as those that are whole, and OK or ErrTorn; any byte as another one as those ahead of it, and ErrBad.
func TestAnyFrames(t *testing.T) {
	r := rand.New(rand.NewSource(7))
	for range 2000 {
		l := anyTexts(r)
		all, e := frame.All(l...)
		if e != api.OK {
			t.Fatalf("All of %q: %v", l, e)
		}
		scans(t, all, l, api.OK)
		for range 20 {
			n := r.Intn(len(all) + 1)
			whole, why := cutAt(l, n)
			scans(t, all[:n], l[:whole], why)
			if n == len(all) {
				continue
			}
			other := []byte(all)
			other[n] ^= byte(1 + r.Intn(255))
			scans(t, string(other), l[:whole], api.ErrBad)
		}
	}
}

// anyTexts has some texts, mostly short ones.
func anyTexts(r *rand.Rand) []string {
	l := make([]string, r.Intn(6))
	for i := range l {
		b := make([]byte, r.Intn(40)>>r.Intn(6)<<r.Intn(3))
		for j := range b {
			b[j] = byte(r.Intn(256) >> r.Intn(9))
		}
		l[i] = string(b)
	}
	return l
}

// P7.3: bits that lie within 32 in a row of a count, of its sum, of a text's sum or of a text, turned, are told as ErrBad.
func TestRowOfBits(t *testing.T) {
	r := rand.New(rand.NewSource(8))
	l := []string{"ahead", letters(40), "behind"}
	all := framed(l...)
	from := len(framed(l[0]))
	for range 20000 {
		other := []byte(all)
		part := []int{0, 4, 8, 12 + r.Intn(37)}[r.Intn(4)]
		row := r.Uint32()>>r.Intn(32) | 1
		at := other[from+part:][:4]
		binary.LittleEndian.PutUint32(at, binary.LittleEndian.Uint32(at)^row)
		scans(t, string(other), l[:1], api.ErrBad)
	}
}

// P7.3: a cut, or a byte that is another one, at many places of a longer text.
func TestLongerText(t *testing.T) {
	text := letters(3000)
	all := framed("ahead", text, "behind")
	from := len(framed("ahead"))
	for n := from; n < from+len(framed(text)); n += 1 + n/64 {
		want := api.ErrTorn
		if n == from {
			want = api.OK
		}
		scans(t, all[:n], []string{"ahead"}, want)
		other := []byte(all)
		other[n] ^= 0x10
		scans(t, string(other), []string{"ahead"}, api.ErrBad)
	}
}

// told is a plain reading of bytes, as the chapter's words say.
func told(b []byte) (l []string, good int, e api.Errno) {
	for good < len(b) {
		left := b[good:]
		if len(left) < 8 {
			return l, good, api.ErrTorn
		}
		n := binary.LittleEndian.Uint32(left)
		if crc32.ChecksumIEEE(left[:4]) != binary.LittleEndian.Uint32(left[4:]) || n > 1<<22 {
			return l, good, api.ErrBad
		}
		if uint64(len(left)) < 12+uint64(n) {
			return l, good, api.ErrTorn
		}
		if crc32.ChecksumIEEE(left[12:12+n]) != binary.LittleEndian.Uint32(left[8:]) {
			return l, good, api.ErrBad
		}
		l = append(l, string(left[12:12+n]))
		good += 12 + int(n)
	}
	return l, good, api.OK
}

// anyPieces has whole frames, heads whose counts and sums are right or not, and other bytes, in any mixture, and a cut behind them.
func anyPieces(r *rand.Rand) []byte {
	var b []byte
	for range r.Intn(5) {
		switch r.Intn(5) {
		case 0, 1:
			b = append(b, framed(anyTexts(r)...)...)
		case 2:
			b = append(b, head(uint32(r.Intn(20)), 0)...)
		case 3:
			b = append(b, head(r.Uint32()>>r.Intn(32), r.Uint32())...)
		case 4:
			b = append(b, letters(r.Intn(30))...)
		}
	}
	if len(b) > 0 && r.Intn(2) == 0 {
		b = b[:r.Intn(len(b))]
	}
	return b
}

// P7.2, P7.3: of any bytes Scan tells what a plain reading does, what it tells is put as these bytes, and a Scan of these alone has no error.
func TestAnyBytes(t *testing.T) {
	r := rand.New(rand.NewSource(9))
	seen := map[api.Errno]int{}
	for range 50000 {
		b := anyPieces(r)
		want, wantGood, wantWhy := told(b)
		l, good, e := frame.Scan(string(b))
		if !slices.Equal(l, want) || good != wantGood || e != wantWhy {
			t.Fatalf("Scan(%q): %q %d %v, not %q %d %v", b, l, good, e, want, wantGood, wantWhy)
		}
		seen[e]++
		if put, f := frame.All(l...); put != string(b[:good]) || f != api.OK {
			t.Fatalf("Scan(%q): %q, put as %q %v", b, l, put, f)
		}
		scans(t, string(b[:good]), l, api.OK)
	}
	for _, e := range []api.Errno{api.OK, api.ErrTorn, api.ErrBad} {
		if seen[e] < 1000 {
			t.Errorf("%v came %d times alone", e, seen[e])
		}
	}
}
