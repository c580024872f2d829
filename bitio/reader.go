package bitio

import "hanaper/api"

// Reader of bits.
type Reader struct {
	s  string
	at int // bits that were taken
}

// New is a reader that stands ahead of all bits of s.
func New(s string) *Reader {
	return &Reader{s: s}
}

// Take is the number that the next bits are, the first one lowest.
func (r *Reader) Take(width int) (n uint32, e api.Errno) {
	// One place for all ways out: whatever error is told, the reader stays.
	defer func() {
		if e == api.OK {
			r.at += width
		}
	}()
	if !mayBeWidth(width) {
		return 0, api.ErrArg
	}
	if r.Left() < width {
		return 0, api.ErrShort
	}
	for i := range width {
		n |= r.bit(r.at+i) << i
	}
	return n, api.OK
}

// Left is how many bits there are yet.
func (r *Reader) Left() int {
	return 8*len(r.s) - r.at
}

// End tells whether what is left is no more than what fills up a byte.
func (r *Reader) End() api.Errno {
	if r.Left() >= 8 {
		return api.ErrMore
	}
	// Of a copy: the reader stays.
	rest := *r
	if n, _ := rest.Take(rest.Left()); n != 0 {
		return api.ErrMore
	}
	return api.OK
}

func (r *Reader) bit(at int) uint32 {
	return uint32(r.s[at/8] >> (at % 8) & 1)
}
