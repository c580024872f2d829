package digest

import "math/bits"

// rootBits is how many bits a root has: three ahead of the point, as the 64th prime is below 512, and 32 behind it.
const rootBits = 35

// roots makes K: the first 32 bits behind the point of the cube roots of the first 64 primes.
func roots() [64]uint32 {
	var k [64]uint32
	p := uint64(1)
	for i := range k {
		p = primeAbove(p)
		k[i] = uint32(root(p))
	}
	return k
}

// root is the cube root of p, which is below 512, times 2^32, without what is behind the point.
func root(p uint64) uint64 {
	r := uint64(0)
	for i := rootBits - 1; i >= 0; i-- {
		if more := r | 1<<i; cubeFits(more, p) {
			r = more
		}
	}
	return r
}

// cubeFits tells whether the cube of r, which is below 2^35, is p times 2^96 at most. It has more than 64 bits, and is exact all the same: a float is not.
func cubeFits(r, p uint64) bool {
	high, low := bits.Mul64(r, r)
	carry, rest := bits.Mul64(low, r)
	top := high*r + carry
	return top < p<<32 || top == p<<32 && rest == 0
}

// primeAbove is the least prime that is greater than n.
func primeAbove(n uint64) uint64 {
	for n++; !isPrime(n); n++ {
	}
	return n
}

// isPrime tells whether n, which is 2 or more, is a prime.
func isPrime(n uint64) bool {
	for d := uint64(2); d*d <= n; d++ {
		if n%d == 0 {
			return false
		}
	}
	return true
}
