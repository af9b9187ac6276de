// Package word has numbers as bytes, and as digits, and sums of texts.
package word

import "fascicle/api"

const maxBytes = 8 // of a number

// Put answers the n bytes of v, the lowest one first.
func Put(v uint64, n int) (string, api.Errno) {
	if n < 1 || n > maxBytes {
		return "", api.ErrArg
	}
	// A shift by all 64 bits leaves none: each number has room in 8 bytes.
	if v>>(8*n) != 0 {
		return "", api.ErrLong
	}
	l := make([]byte, n)
	for i := range l {
		l[i] = byte(v >> (8 * i))
	}
	return string(l), api.OK
}

// Get answers the number whose bytes s has, the lowest one first.
func Get(s string) (uint64, api.Errno) {
	if len(s) < 1 || len(s) > maxBytes {
		return 0, api.ErrArg
	}
	var v uint64
	for i := range len(s) {
		v |= uint64(s[i]) << (8 * i)
	}
	return v, api.OK
}
