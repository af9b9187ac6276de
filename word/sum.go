package word

// poly has the bits of the CRC-32's polynomial, turned round.
const poly = 0xedb88320

// Sum answers the CRC-32 of s.
func Sum(s string) uint32 {
	table := halves()
	sum := ^uint32(0)
	for i := range len(s) {
		sum ^= uint32(s[i])
		sum = table[sum&15] ^ sum>>4
		sum = table[sum&15] ^ sum>>4
	}
	return ^sum
}

// halves answers what each half of a byte leaves behind, once its 4 bits are divided by the polynomial.
// It is half a byte's table, not a whole one's, as it is made anew for each sum, and most texts are short.
func halves() [16]uint32 {
	table := [16]uint32{1: poly >> 3, 2: poly >> 2, 4: poly >> 1, 8: poly}
	// Remainders add up bit by bit: those of the single bits tell all others.
	fill := func(half int) {
		low := half & -half
		table[half] = table[low] ^ table[half^low]
	}
	for half := range len(table) {
		fill(half)
	}
	return table
}
