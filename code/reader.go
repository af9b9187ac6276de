package code

import (
	"math/bits"
	"strings"
	"unicode/utf8"

	"fascicle/api"
	"fascicle/value"
	"fascicle/word"
)

// Get answers the value whose bytes s begins with, and how many bytes these are.
func Get(s string) (v api.Value, n int, e api.Errno) {
	return read(s, (*reader).value)
}

// GetRow answers the row whose bytes s begins with, and how many bytes these are.
func GetRow(s string) (l []api.Value, n int, e api.Errno) {
	return read(s, (*reader).row)
}

// reader takes bytes off the beginning of what is left, and gives up where it can't go on.
type reader struct{ left string }

// gaveUp is the reader's own error: why it gave up.
type gaveUp struct{ api.Errno }

func giveUp(why api.Errno) { panic(gaveUp{why}) }

// read answers what one reading gets of the beginning of s, and how many bytes it took.
func read[T any](s string, one func(r *reader) T) (got T, n int, e api.Errno) {
	defer func() {
		switch end := recover().(type) {
		case nil:
		case gaveUp:
			e = end.Errno // nothing was got yet: all else is zero still
		default:
			panic(end) // a fault of the program, which no answer may hide
		}
	}()
	r := &reader{left: s}
	got = one(r)
	return got, len(s) - len(r.left), api.OK
}

func (r *reader) take(n int) string {
	if n > len(r.left) {
		giveUp(api.ErrEnd)
	}
	taken := r.left[:n]
	r.left = r.left[n:]
	return taken
}

func (r *reader) number(n int) uint64 {
	// It is of 1 to 8 bytes: there is no error to tell.
	v, _ := word.Get(r.take(n))
	return v
}

func (r *reader) row() []api.Value {
	n := r.number(short)
	if n < 1 || n > api.MaxCols {
		giveUp(api.ErrForm)
	}
	l := make([]api.Value, n)
	for i := range l {
		l[i] = r.value()
	}
	return l
}

func (r *reader) value() api.Value {
	v := api.Value{Kind: uint8(r.number(short))}
	switch v.Kind {
	case api.KindBool:
		v.Int = int64(r.number(short))
	case api.KindInt:
		v.Int = int64(r.number(whole))
	case api.KindReal:
		v.Real = r.number(whole)
	case api.KindBytes:
		v.Text = r.text(func(string, int) bool { return true })
	case api.KindString:
		v.Text = r.text(beginsLetters)
	}
	if value.Check(v) != api.OK {
		giveUp(api.ErrForm)
	}
	return v
}

// text takes a text of the length that stands ahead of it. Of one that is cut, begins tells whether one of n bytes may begin so.
func (r *reader) text(begins func(s string, n int) bool) string {
	n := int(r.number(short))
	if n > api.MaxText {
		giveUp(api.ErrForm)
	}
	if len(r.left) < n && !begins(r.left, n) {
		giveUp(api.ErrForm)
	}
	// A copy: a value is kept longer than the bytes that it was read of.
	return strings.Clone(r.take(n))
}

// beginsLetters answers whether s, which has less than n bytes, begins a text of n bytes that is valid UTF-8.
func beginsLetters(s string, n int) bool {
	for s != "" && utf8.FullRuneInString(s) {
		letter, size := utf8.DecodeRuneInString(s)
		if letter == utf8.RuneError && size == 1 {
			return false
		}
		s, n = s[size:], n-size
	}
	return s == "" || letterBytes(s[0]) <= n
}

// letterBytes answers how many bytes a letter has: as many as its first one, of several, begins with bits of 1.
func letterBytes(first byte) int { return bits.LeadingZeros8(^first) }
