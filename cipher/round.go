package cipher

import (
	"iter"
	"math/bits"
)

// changed is b with what do makes of each of its bytes.
func changed(b Block, do func(byte) byte) Block {
	for c, w := range columns(b) {
		b = put(b, c, each(w, do))
	}
	return b
}

// turned is b with its rows turned to the left, each by its number of places.
func turned(b Block) Block {
	t := b
	for i := range t {
		column, row := i/4, i%4
		t[i] = b[(column+row)%4*4+row]
	}
	return t
}

// mixed is b with each byte made of all those of its column.
func mixed(b Block) Block {
	twice := func(x byte) byte { return Times(x, 2) }
	thrice := func(x byte) byte { return Times(x, 3) }
	for c, w := range columns(b) {
		// Each byte sums alike, from itself on round the column: so one sum of turned columns is that of all four.
		b = put(b, c, each(w, twice)^each(bits.RotateLeft32(w, 8), thrice)^
			bits.RotateLeft32(w, 16)^bits.RotateLeft32(w, 24))
	}
	return b
}

// added is b with the round key r.
func added(b Block, k Keys, r int) Block {
	for c, w := range columns(b) {
		b = put(b, c, w^k[4*r+c])
	}
	return b
}

// columns goes through the columns of b, as words. They are those of a copy: a loop may put others into its own block.
func columns(b Block) iter.Seq2[int, uint32] {
	return func(yield func(int, uint32) bool) {
		for c := range 4 {
			if !yield(c, word(b[4*c:4*c+4])) {
				return
			}
		}
	}
}

// put is b with w as its column c.
func put(b Block, c int, w uint32) Block {
	for i := range 4 {
		b[4*c+i] = byte(w >> (24 - 8*i))
	}
	return b
}

// each is w with what do makes of each of its bytes.
func each(w uint32, do func(byte) byte) uint32 {
	made := uint32(0)
	for shift := 0; shift < 32; shift += 8 {
		made |= uint32(do(byte(w>>shift))) << shift
	}
	return made
}

// word is four bytes as a number, the highest one first.
func word(s []byte) uint32 {
	w := uint32(0)
	for _, x := range s {
		w = w<<8 | uint32(x)
	}
	return w
}
