package squeeze

import (
	"hanaper/api"
	"hanaper/bitio"
	"hanaper/prefix"
	"hanaper/window"
)

// expansion is what is read of a squeezed text. Its steps panic with the first error.
type expansion struct {
	bits *bitio.Reader
	text []byte
	most int
}

// recovered is what steps come to, or the error by which one of them ended.
func recovered(steps func() string) (s string, e api.Errno) {
	defer func() {
		if p := recover(); p != nil {
			// Only an error is caught: any other panic would be a fault here, and goes on.
			e = p.(api.Errno)
		}
	}()
	return steps(), api.OK
}

// must goes on only if there is no error.
func must(e api.Errno) {
	if e != api.OK {
		panic(e)
	}
}

func (x *expansion) run() string {
	lengths := x.lengths()
	for symbol := x.symbol(lengths); symbol != end; symbol = x.symbol(lengths) {
		x.join(x.token(symbol))
	}
	must(x.bits.End())
	return string(x.text)
}

// lengths are those of all symbols' words.
func (x *expansion) lengths() []int {
	l := make([]int, symbols)
	n := x.number(symbolBits)
	if n > symbols {
		panic(api.ErrCode)
	}
	next := 0 // the lowest symbol that may come
	for range n {
		symbol := x.number(symbolBits)
		length := x.number(lengthBits)
		if symbol < next || symbol >= symbols || length == 0 {
			panic(api.ErrCode)
		}
		l[symbol] = length
		next = symbol + 1
	}
	if _, e := prefix.Codes(l); e != api.OK || l[end] == 0 {
		panic(api.ErrCode)
	}
	return l
}

func (x *expansion) number(width int) int {
	n, e := x.bits.Take(width)
	must(e)
	return int(n)
}

func (x *expansion) symbol(lengths []int) int {
	symbol, e := prefix.Next(x.bits, lengths)
	must(e)
	return symbol
}

// token is that of a symbol; a match has bits behind its word.
func (x *expansion) token(symbol int) window.Token {
	if symbol < firstMatch {
		return window.Token{C: byte(symbol)}
	}
	return window.Token{Len: symbol - firstMatch + shortest, Back: x.number(backBits) + 1}
}

// join puts a token's bytes behind the text. They hang on those alone that the token reaches back to: joined with these, no token takes the longer the longer the text is.
func (x *expansion) join(t window.Token) {
	from := max(len(x.text)-t.Back, 0)
	joined, e := window.Join(append(bytesOf(x.text[from:]), t), x.most-from)
	must(e)
	x.text = append(x.text[:from], joined...)
}

func bytesOf(text []byte) []window.Token {
	var l []window.Token
	for _, c := range text {
		l = append(l, window.Token{C: c})
	}
	return l
}
