package real

import (
	"fascicle/api"
	"fascicle/word"
)

const digits = 16 // of bits

// Text answers the digits of bits, once they are canonical, to the base 16.
func Text(bits uint64) string {
	// All bits have room in so many digits: there is no error to tell.
	s, _ := word.Hex(Canon(bits), digits)
	return s
}

// Read answers the canonical bits whose digits s has.
func Read(s string) (uint64, api.Errno) {
	if len(s) != digits {
		return 0, api.ErrArg
	}
	bits, e := word.Unhex(s)
	if e != api.OK || !canonical(bits) {
		return 0, api.ErrArg
	}
	return bits, api.OK
}
