package prefix

import (
	"hanaper/api"
	"hanaper/bitio"
)

// Next is the symbol whose word the next bits are.
func Next(r *bitio.Reader, lengths []int) (int, api.Errno) {
	if !areCode(lengths) {
		return 0, api.ErrCode
	}
	n := count(lengths)
	first := n.firsts()
	word := 0
	// With no longer word left the bits can't become one: no more are taken.
	for width, longer := 1, n.all(); longer > 0; width++ {
		bit, e := r.Take(1)
		if e != api.OK {
			return 0, e
		}
		word = word<<1 | int(bit)
		// Bits that were no shorter word lie behind all of them, so never ahead of the first one.
		if at := word - first[width]; at < n[width] {
			return symbolOf(lengths, width, at), api.OK
		}
		longer -= n[width]
	}
	return 0, api.ErrCode
}

// symbolOf is the symbol with so many others of its length ahead of it.
func symbolOf(lengths []int, length, others int) int {
	for symbol, n := range lengths {
		if n != length {
			continue
		}
		if others == 0 {
			return symbol
		}
		others--
	}
	return 0
}
