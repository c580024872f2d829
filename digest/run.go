package digest

import (
	"math/bits"

	"hanaper/api"
)

// run is a sum under way: K, and the eight numbers.
type run struct {
	keys [64]uint32
	sums [8]uint32
}

// start tells the eight numbers as they are ahead of the first block.
func start() [8]uint32 {
	return [8]uint32{
		0x6a09e667, 0xbb67ae85, 0x3c6ef372, 0xa54ff53a,
		0x510e527f, 0x9b05688c, 0x1f83d9ab, 0x5be0cd19,
	}
}

// take goes through a block of 64 bytes.
func (r *run) take(block string) {
	v := r.sums
	for i, w := range schedule(block) {
		v = step(v, r.keys[i]+w)
	}
	for i, x := range v {
		r.sums[i] += x
	}
}

// hash tells the bytes of the eight numbers.
func (r *run) hash() api.Hash {
	var h api.Hash
	for i, x := range r.sums {
		for j := range 4 {
			h[4*i+j] = byte(x >> (24 - 8*j))
		}
	}
	return h
}

// schedule makes the 64 numbers w of a block.
func schedule(block string) [64]uint32 {
	var w [64]uint32
	for i := range 16 {
		for j := range 4 {
			w[i] = w[i]<<8 | uint32(block[4*i+j])
		}
	}
	for i := 16; i < len(w); i++ {
		x, y := w[i-15], w[i-2]
		w[i] = w[i-16] + w[i-7] +
			(rot(x, 7) ^ rot(x, 18) ^ x>>3) +
			(rot(y, 17) ^ rot(y, 19) ^ y>>10)
	}
	return w
}

// step turns the eight numbers a to h once; more is the sum of the step's K and w.
func step(v [8]uint32, more uint32) [8]uint32 {
	a, b, c, d, e, f, g, h := v[0], v[1], v[2], v[3], v[4], v[5], v[6], v[7]
	t := h + (rot(e, 6) ^ rot(e, 11) ^ rot(e, 25)) + (e&f ^ ^e&g) + more
	u := (rot(a, 2) ^ rot(a, 13) ^ rot(a, 22)) + (a&b ^ a&c ^ b&c)
	return [8]uint32{t + u, a, b, c, d + t, e, f, g}
}

// rot is x turned to the right by n bits.
func rot(x uint32, n int) uint32 {
	return bits.RotateLeft32(x, -n)
}
