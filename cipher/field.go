package cipher

import "math/bits"

const (
	rest      = 0x1b // what x^8 comes to: x^4 + x^3 + x + 1
	generator = 3    // its powers are all bytes but 0
	boxOfZero = 99
)

// Times is the product of a and b as polynomials over bits.
func Times(a, b byte) byte {
	product := byte(0)
	for ; b > 0; b >>= 1 {
		if b&1 == 1 {
			product ^= a
		}
		a = double(a)
	}
	return product
}

// Box tells what stands for each byte.
func Box() [256]byte {
	var box [256]byte
	for a, n := range inverses() {
		box[a] = boxOfZero ^ n ^
			bits.RotateLeft8(n, 1) ^ bits.RotateLeft8(n, 2) ^
			bits.RotateLeft8(n, 3) ^ bits.RotateLeft8(n, 4)
	}
	return box
}

// double is a times x.
func double(a byte) byte {
	if a < 128 {
		return a << 1
	}
	return a<<1 ^ rest
}

// inverses tells of each byte the one that it makes 1 with, and 0 of 0. They are read off the powers of one byte and not searched for, as each block's encryption makes the box anew.
func inverses() [256]byte {
	var powers [255]byte
	p := byte(1)
	for i := range powers {
		powers[i] = p
		p = Times(p, generator)
	}
	var n [256]byte
	for i, p := range powers {
		n[p] = powers[(len(powers)-i)%len(powers)]
	}
	return n
}
