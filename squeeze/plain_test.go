package squeeze_test

import (
	"slices"
	"strings"

	"hanaper/api"
	"hanaper/bitio"
	"hanaper/prefix"
	"hanaper/window"
)

// What the calls should answer, worked out on rows of digits.

const (
	last  = 288 // the end's symbol
	count = 289 // symbols

	mostPlain = 4096 // bytes that may be squeezed
)

type token = window.Token

func digitsOf(s string) string {
	var b strings.Builder
	for _, c := range []byte(s) {
		b.WriteString(number(int(c), 8))
	}
	return b.String()
}

// bytesOf fills up with digits 0.
func bytesOf(digits string) string {
	b := make([]byte, (len(digits)+7)/8)
	for i, digit := range digits {
		if digit == '1' {
			b[i/8] += 1 << (i % 8)
		}
	}
	return string(b)
}

func number(n, width int) string {
	b := make([]byte, width)
	for i := range b {
		b[i] = '0' + byte(n>>i&1)
	}
	return string(b)
}

// pair is a symbol and its length, as they stand ahead of what is squeezed.
type pair struct{ symbol, length int }

func head(n int, l ...pair) string {
	s := number(n, 9)
	for _, p := range l {
		s += number(p.symbol, 9) + number(p.length, 4)
	}
	return s
}

func back(n int) string { return number(n-1, 9) }

func lengthsOf(l []pair) []int {
	lengths := make([]int, count)
	for _, p := range l {
		lengths[p.symbol] = p.length
	}
	return lengths
}

// wordsOf are the words as digits; those that have none are empty.
func wordsOf(lengths []int) []string {
	pieces, _ := prefix.Codes(lengths)
	words := make([]string, len(lengths))
	for i, p := range pieces {
		words[i] = number(int(p.N), p.Width)
	}
	return words
}

func wantFreq(l []token) []int {
	freq := make([]int, count)
	freq[last]++
	for _, t := range l {
		for symbol := range count {
			isByte := symbol < 256 && t.Len == 0 && int(t.C) == symbol
			isMatch := symbol >= 256 && symbol < last && t.Len == symbol-253
			if isByte || isMatch {
				freq[symbol]++
			}
		}
	}
	return freq
}

func wantSqueeze(s string) string {
	l := window.Split(s)
	lengths, _ := prefix.Lengths(wantFreq(l), 15)
	words := wordsOf(lengths)
	var b strings.Builder
	var pairs []pair
	for symbol, length := range lengths {
		if length > 0 {
			pairs = append(pairs, pair{symbol, length})
		}
	}
	b.WriteString(head(len(pairs), pairs...))
	for _, t := range l {
		if t.Len == 0 {
			b.WriteString(words[t.C])
			continue
		}
		b.WriteString(words[253+t.Len] + back(t.Back))
	}
	b.WriteString(words[last])
	return bytesOf(b.String())
}

// tape is a row of digits that are taken.
type tape struct{ left string }

func (d *tape) take(width int) (int, bool) {
	if len(d.left) < width {
		return 0, false
	}
	n := 0
	for i := range width {
		n += int(d.left[i]-'0') << i
	}
	d.left = d.left[width:]
	return n, true
}

// word takes a word, or tells that there is none, or no whole one.
func (d *tape) word(words []string) (int, api.Errno) {
	for n := 1; n <= len(d.left); n++ {
		if i := slices.Index(words, d.left[:n]); i >= 0 {
			d.left = d.left[n:]
			return i, api.OK
		}
		if !slices.ContainsFunc(words, func(w string) bool { return strings.HasPrefix(w, d.left[:n]) }) {
			return 0, api.ErrCode
		}
	}
	return 0, api.ErrShort
}

func (d *tape) lengths() ([]int, api.Errno) {
	n, ok := d.take(9)
	if !ok {
		return nil, api.ErrShort
	}
	if n > count {
		return nil, api.ErrCode
	}
	lengths := make([]int, count)
	ahead := -1
	for range n {
		symbol, ok1 := d.take(9)
		length, ok2 := d.take(4)
		if !ok1 || !ok2 {
			return nil, api.ErrShort
		}
		if symbol >= count || symbol <= ahead || length == 0 {
			return nil, api.ErrCode
		}
		lengths[symbol] = length
		ahead = symbol
	}
	share, used := 0, 0
	for _, length := range lengths {
		if length > 0 {
			share += 32768 >> length
			used++
		}
	}
	if share != 32768 && !(used == 1 && lengths[ahead] == 1) || lengths[last] == 0 {
		return nil, api.ErrCode
	}
	return lengths, api.OK
}

func wantExpand(t string, most int) (string, api.Errno) {
	d := &tape{digitsOf(t)}
	lengths, e := d.lengths()
	if e != api.OK {
		return "", e
	}
	words := wordsOf(lengths)
	s := ""
	for {
		symbol, e := d.word(words)
		switch {
		case e != api.OK:
			return "", e
		case symbol == last && (len(d.left) >= 8 || strings.Contains(d.left, "1")):
			return "", api.ErrMore
		case symbol == last:
			return s, api.OK
		case symbol < 256:
			s += string([]byte{byte(symbol)})
		default:
			far, ok := d.take(9)
			if !ok {
				return "", api.ErrShort
			}
			if far+1 > len(s) {
				return "", api.ErrMatch
			}
			s += strings.Repeat(s[len(s)-far-1:], 34)[:symbol-253]
		}
		if len(s) > most {
			return "", api.ErrCap
		}
	}
}

// packed is what a run of Pieces comes to, to hold the digits against.
func packed(l ...bitio.Piece) string {
	s, _ := bitio.Pack(l)
	return s
}
