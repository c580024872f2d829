package squeeze

import (
	"hanaper/api"
	"hanaper/bitio"
	"hanaper/prefix"
	"hanaper/window"
)

// written are the pieces of all that a text's tokens are squeezed to.
func written(l []window.Token) []bitio.Piece {
	// No error is told: symbols of a text that may be squeezed always make a code.
	lengths, _ := prefix.Lengths(Freq(l), api.MaxBits)
	words, _ := prefix.Codes(lengths)
	var made []bitio.Piece
	putNumber := func(n, width int) {
		made = append(made, bitio.Piece{N: uint32(n), Width: width})
	}
	putSymbol := func(symbol int) {
		made = append(made, words[symbol])
	}
	writeLengths(lengths, putNumber)
	writeTokens(l, putSymbol, putNumber)
	putSymbol(end)
	return made
}

func writeLengths(lengths []int, putNumber func(n, width int)) {
	putNumber(used(lengths), symbolBits)
	for symbol, length := range lengths {
		if length > 0 {
			putNumber(symbol, symbolBits)
			putNumber(length, lengthBits)
		}
	}
}

func used(lengths []int) int {
	n := 0
	for _, length := range lengths {
		if length > 0 {
			n++
		}
	}
	return n
}

func writeTokens(l []window.Token, putSymbol func(symbol int), putNumber func(n, width int)) {
	for _, t := range l {
		symbol, _ := symbolOf(t)
		putSymbol(symbol)
		if t.Len > 0 {
			putNumber(t.Back-1, backBits)
		}
	}
}
