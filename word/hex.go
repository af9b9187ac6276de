package word

import "fascicle/api"

const maxDigits = 16 // of a number

// Hex answers n digits of v to the base 16, the highest one first.
func Hex(v uint64, n int) (string, api.Errno) {
	if n < 1 || n > maxDigits {
		return "", api.ErrArg
	}
	// A shift by all 64 bits leaves none: each number has room in 16 digits.
	if v>>(4*n) != 0 {
		return "", api.ErrLong
	}
	l := make([]rune, n)
	for i := range l {
		l[n-1-i] = digit(v >> (4 * i) & 15)
	}
	return string(l), api.OK
}

// Unhex answers the number whose digits to the base 16 s has, the highest one first.
func Unhex(s string) (uint64, api.Errno) {
	if len(s) < 1 || len(s) > maxDigits {
		return 0, api.ErrArg
	}
	var v uint64
	for _, r := range s {
		n, is := worth(r)
		if !is {
			return 0, api.ErrArg
		}
		v = v<<4 | n
	}
	return v, api.OK
}

// digit answers the digit of n, which is from 0 to 15.
func digit(n uint64) rune {
	if n < 10 {
		return '0' + rune(n)
	}
	return 'a' + rune(n-10)
}

// worth answers the number that r tells, if it is a digit.
func worth(r rune) (n uint64, is bool) {
	switch {
	case r >= '0' && r <= '9':
		return uint64(r - '0'), true
	case r >= 'a' && r <= 'f':
		return uint64(r-'a') + 10, true
	}
	return 0, false
}
