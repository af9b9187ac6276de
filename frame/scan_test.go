package frame_test

import (
	"encoding/binary"
	"hash/crc32"
	"math"
	"slices"
	"strings"
	"testing"

	"fascicle/api"
	"fascicle/frame"
)

// scans asks that Scan of b tells just these texts, the bytes of their frames, and e.
func scans(t *testing.T, b string, l []string, e api.Errno) {
	t.Helper()
	got, good, why := frame.Scan(b)
	if !slices.Equal(got, l) || good != len(framed(l...)) || why != e {
		t.Errorf("Scan of %d bytes (%q): %d texts, %d, %v, not %d, %d, %v", len(b), b[:min(len(b), 40)], len(got), good, why, len(l), len(framed(l...)), e)
	}
}

// ahead has the frames that b has to begin with, so that what follows is asked for behind none, one and several.
func ahead() [][]string {
	return [][]string{nil, {""}, {"a"}, {"one", "", "three"}, {letters(300)}}
}

// cutAt is how many frames of l are whole in their first n bytes, and whether these end with one.
func cutAt(l []string, n int) (whole int, e api.Errno) {
	size := 0
	for _, s := range l {
		if size+len(framed(s)) > n {
			break
		}
		size += len(framed(s))
		whole++
	}
	if size != n {
		return whole, api.ErrTorn
	}
	return whole, api.OK
}

// P7.2: what Put and All tell is told as the texts.
func TestScan(t *testing.T) {
	scans(t, "", nil, api.OK)
	for _, l := range lists() {
		all, _ := frame.All(l...)
		scans(t, all, l, api.OK)
		scans(t, framed(l...), l, api.OK)
	}
	for n := range 300 {
		one, _ := frame.Put(letters(n))
		scans(t, one, []string{letters(n)}, api.OK)
	}
	scans(t, "\x00\x00\x00\x00\x1c\xdf\x44\x21\x00\x00\x00\x00\x01\x00\x00\x00\x79\xb8\xf8\x99\x43\xbe\xb7\xe8a", []string{"", "a"}, api.OK)
}

// P7.2: the longest text, alone and among others, whole and torn.
func TestScanLongest(t *testing.T) {
	longest := letters(api.MaxFrame)
	one, _ := frame.Put(longest)
	scans(t, one, []string{longest}, api.OK)
	scans(t, one[:len(one)-1], nil, api.ErrTorn)
	scans(t, one[:len(one)-1]+string([]byte{^one[len(one)-1]}), nil, api.ErrBad)
	all, _ := frame.All("a", longest, longest, "b")
	scans(t, all, []string{"a", longest, longest, "b"}, api.OK)
	scans(t, all[:len(all)-1], []string{"a", longest, longest}, api.ErrTorn)
	scans(t, all[:len(framed("a"))+len(one)-1], []string{"a"}, api.ErrTorn)
}

// P7.2: frames that are cut: those that are whole, and ErrTorn, or OK where one ends.
func TestScanCut(t *testing.T) {
	for _, l := range lists() {
		all := framed(l...)
		for n := range len(all) {
			whole, why := cutAt(l, n)
			scans(t, all[:n], l[:whole], why)
		}
	}
}

// P7.2: each byte of each frame as each other one: the frames ahead of it, and ErrBad.
func TestScanOther(t *testing.T) {
	for _, l := range [][]string{{""}, {"a"}, {"", "\x00", "xyz", ""}, {"one", "\xff\x00", letters(20)}} {
		all := framed(l...)
		for at := range all {
			whole, _ := cutAt(l, at)
			other := []byte(all)
			for by := 1; by < 256; by++ {
				other[at] = all[at] ^ byte(by)
				scans(t, string(other), l[:whole], api.ErrBad)
			}
		}
	}
}

// P7.2: the chapter's examples of a Scan.
func TestScanExamples(t *testing.T) {
	all, _ := frame.All("a", "b")
	l, good, e := frame.Scan(all[:len(all)-1])
	if !slices.Equal(l, []string{"a"}) || good != 13 || e != api.ErrTorn {
		t.Errorf("but for the last byte: %q %d %v", l, good, e)
	}
	l, good, e = frame.Scan(all[:12] + "x" + all[13:])
	if len(l) != 0 || good != 0 || e != api.ErrBad {
		t.Errorf("with the byte 12 another one: %q %d %v", l, good, e)
	}
}

// P7.2: fewer than 8 bytes are torn, whatever they are, also behind frames.
func TestScanFew(t *testing.T) {
	var few []string
	for n := 1; n < 8; n++ {
		for _, c := range []string{"\x00", "\x01", "a", "\xff"} {
			few = append(few, strings.Repeat(c, n))
		}
		few = append(few, letters(n), head(0, 0)[:n], head(5, 0)[:n], head(api.MaxFrame+1, 0)[:n], head(math.MaxUint32, 0)[:n])
	}
	for b := range 256 {
		few = append(few, string([]byte{byte(b)}), string([]byte{0, 0, 0, 0, byte(b)}), string([]byte{0, 0, 0, 0, 0x1c, 0xdf, byte(b)}))
	}
	for _, l := range ahead() {
		for _, s := range few {
			scans(t, framed(l...)+s, l, api.ErrTorn)
		}
	}
}

// P7.2: a count whose sum is another one is bad, from 8 bytes on, however many are wanting.
func TestScanCount(t *testing.T) {
	for _, l := range ahead() {
		for _, count := range []uint32{0, 1, 2, 255, 256, api.MaxFrame, api.MaxFrame + 1, math.MaxUint32} {
			right := []byte(head(count, 0))
			for bit := range 64 {
				other := slices.Clone(right)
				other[bit/8] ^= 1 << (bit % 8)
				for n := 8; n <= len(other); n++ {
					scans(t, framed(l...)+string(other[:n]), l, api.ErrBad)
				}
				scans(t, framed(l...)+string(other)+framed("a"), l, api.ErrBad)
			}
		}
		scans(t, framed(l...)+strings.Repeat("\x00", 8), l, api.ErrBad)
		scans(t, framed(l...)+strings.Repeat("\x00", 100), l, api.ErrBad)
		scans(t, framed(l...)+strings.Repeat("\xff", 100), l, api.ErrBad)
		scans(t, framed(l...)+"\x00"+framed("a"), l, api.ErrBad)
	}
}

// P7.2: a count above MaxFrame is bad beside its right sum, whether bytes are wanting or not.
func TestScanLong(t *testing.T) {
	for _, l := range ahead() {
		for _, count := range []uint32{api.MaxFrame + 1, api.MaxFrame + 2, 2 * api.MaxFrame, 1<<31 - 1, 1 << 31, 1<<31 + 5, math.MaxUint32 - 11, math.MaxUint32} {
			for n := 8; n <= api.HeadSize; n++ {
				scans(t, framed(l...)+head(count, 0)[:n], l, api.ErrBad)
			}
			scans(t, framed(l...)+head(count, 0)+"abc", l, api.ErrBad)
			scans(t, framed(l...)+head(count, 0)+framed("a"), l, api.ErrBad)
		}
		for _, n := range []int{api.MaxFrame + 1, api.MaxFrame + 2} {
			scans(t, framed(l...)+framed(letters(n)), l, api.ErrBad)
			scans(t, framed(l...)+framed(letters(n), "a"), l, api.ErrBad)
		}
	}
}

// P7.2: a right head with fewer bytes behind it than the frame has is torn, whatever these and the text's sum are.
func TestScanWanting(t *testing.T) {
	for _, l := range ahead() {
		for _, count := range []uint32{1, 2, 9, 255, 256, 70000, api.MaxFrame - 1, api.MaxFrame} {
			for _, sum := range []uint32{0, 1, math.MaxUint32, crc32.ChecksumIEEE([]byte("a"))} {
				torn := framed(l...) + head(count, sum)
				for n := range 5 {
					scans(t, torn[:len(torn)-n], l, api.ErrTorn)
				}
				for n := range min(count, 20) {
					scans(t, torn+letters(int(n)), l, api.ErrTorn)
				}
				scans(t, torn+strings.Repeat("\x00", int(count)-1), l, api.ErrTorn)
			}
		}
		// Frames behind one whose count is too high are bytes of its text.
		scans(t, framed(l...)+head(100, 0)+framed("a", "b"), l, api.ErrTorn)
		scans(t, framed(l...)+head(1, 0)[:8], l, api.ErrTorn)
		scans(t, framed(l...)+head(0, 0)[:8], l, api.ErrTorn)
		scans(t, framed(l...)+head(0, 0)[:11], l, api.ErrTorn)
	}
}

// P7.2: behind a right head, a text's sum that is another one is bad.
func TestScanTextSum(t *testing.T) {
	for _, l := range ahead() {
		for _, s := range []string{"", "a", "\x00\xff", letters(300)} {
			right := crc32.ChecksumIEEE([]byte(s))
			for _, sum := range []uint32{right ^ 1, right ^ 1<<31, ^right, right + 1, right - 1, binary.BigEndian.Uint32(binary.LittleEndian.AppendUint32(nil, right^1))} {
				scans(t, framed(l...)+head(uint32(len(s)), sum)+s, l, api.ErrBad)
				scans(t, framed(l...)+head(uint32(len(s)), sum)+s+framed("a"), l, api.ErrBad)
				scans(t, framed(l...)+head(uint32(len(s)), sum)+s+"\x00", l, api.ErrBad)
			}
		}
	}
	// The sum of the count, or of more than the text, is not that of the text.
	scans(t, head(1, crc32.ChecksumIEEE([]byte("\x01\x00\x00\x00")))+"a", nil, api.ErrBad)
	scans(t, head(1, crc32.ChecksumIEEE([]byte("ab")))+"ab", nil, api.ErrBad)
}

// P7.2: nothing behind what is torn or bad is told, though whole frames stand there.
func TestScanBehind(t *testing.T) {
	whole := framed("b", "", "c")
	for _, l := range ahead() {
		for _, s := range []string{"x", "", "longer"} {
			one := framed(s)
			for at := range one {
				other := []byte(one)
				other[at] ^= 0x40
				scans(t, framed(l...)+string(other)+whole, l, api.ErrBad)
			}
		}
		scans(t, framed(l...)+framed("x")[:12]+whole, l, api.ErrBad)
		scans(t, framed(l...)+head(1000, 0)+whole, l, api.ErrTorn)
	}
}

// P7.2, R5: what is told shares no memory with the bytes, nor with what was told before, whichever way it ends.
func TestScanApart(t *testing.T) {
	for _, l := range lists() {
		for _, end := range []struct {
			s string
			e api.Errno
		}{{"", api.OK}, {"\x00", api.ErrTorn}, {"\x00\x00\x00\x00\x00\x00\x00\x00", api.ErrBad}} {
			b := framed(l...) + end.s
			one, _, _ := frame.Scan(b)
			two, _, _ := frame.Scan(b)
			apart(t, append(slices.Clone(one), two...), []string{b})
			for i := range one {
				one[i] = "another one"
			}
			if !slices.Equal(two, l) || b != framed(l...)+end.s {
				t.Errorf("%q of %q, once the list that was told before is another one", two, b)
			}
			scans(t, b, l, end.e)
		}
	}
}
