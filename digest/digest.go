// Package digest is layer 1: see shared/doc/01-digest.md.
package digest

import "hanaper/api"

const (
	blockSize = 64
	lastBytes = 9 // the byte 128, and the number of bits
	longest   = 1 << 40
	outer     = 92
	inner     = 54
	digits    = "0123456789abcdef"
)

// Sum is the hash of s (SHA-256).
func Sum(s string) api.Hash {
	r := run{keys: roots(), sums: start()}
	full := len(s) / blockSize * blockSize
	// Only the end is joined to its filling, so that a long text is not copied.
	eachBlock(s[:full], r.take)
	eachBlock(s[full:]+filling(len(s)-full, len(s)), r.take)
	return r.hash()
}

// Mac is the seal of s by key (HMAC).
func Mac(key, s string) api.Hash {
	if len(key) > blockSize {
		h := Sum(key)
		key = string(h[:])
	}
	mask := func(by byte) string {
		var b [blockSize]byte
		copy(b[:], key)
		for i := range b {
			b[i] ^= by
		}
		return string(b[:])
	}
	h := Sum(mask(inner) + s)
	return Sum(mask(outer) + string(h[:]))
}

// Whole tells how many bytes n bytes have when they are filled up.
func Whole(n int) int {
	if n < 0 || n > longest {
		return 0
	}
	return (n + lastBytes + blockSize - 1) / blockSize * blockSize
}

// Hex tells h's bytes as two digits each.
func Hex(h api.Hash) string {
	b := make([]byte, 0, 2*len(h))
	for _, x := range h {
		b = append(b, digits[x>>4], digits[x&15])
	}
	return string(b)
}

// filling is what stands behind the last n bytes of a text that has length bytes.
func filling(n, length int) string {
	b := make([]byte, Whole(n)-n)
	b[0] = 128
	bitLength := uint64(length) * 8
	for i := len(b) - 1; bitLength > 0; i-- {
		b[i] = byte(bitLength)
		bitLength >>= 8
	}
	return string(b)
}

// eachBlock hands on the blocks of s, whose length is a multiple of a block's.
func eachBlock(s string, take func(string)) {
	for ; len(s) >= blockSize; s = s[blockSize:] {
		take(s[:blockSize])
	}
}
