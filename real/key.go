package real

import "fascicle/api"

// Key answers a number that rises as bits stand.
func Key(bits uint64) uint64 {
	bits = Canon(bits)
	if bits&sign == 0 {
		return bits | sign
	}
	// Below 0 the greater bits are those of the lesser number: turned, they rise with it.
	return ^bits
}

// Back answers the canonical bits whose Key it is.
func Back(key uint64) (uint64, api.Errno) {
	bits := ^key
	if key&sign != 0 {
		bits = key ^ sign
	}
	if !canonical(bits) {
		return 0, api.ErrArg
	}
	return bits, api.OK
}

func canonical(bits uint64) bool { return Canon(bits) == bits }
