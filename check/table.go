package check

const polynomial = 0xEDB88320

// table is what eight steps make of each byte.
func table() [256]uint32 {
	var t [256]uint32
	n := uint32(1)
	for bit := 128; bit > 0; bit /= 2 {
		n = step(n)
		// A byte's entry is the exclusive or of its bits' entries: so little work that each Sum may make the table anew.
		for b := bit; b < len(t); b += 2 * bit {
			t[b] = t[b-bit] ^ n
		}
	}
	return t
}

// step shifts n to the right by 1; the polynomial goes in where a bit 1 fell out.
func step(n uint32) uint32 {
	if n&1 == 1 {
		return n>>1 ^ polynomial
	}
	return n >> 1
}
