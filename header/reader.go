package header

import (
	"hanaper/api"
	"hanaper/varint"
)

// reader of a version: its methods do nothing behind its first error, so that they are called one behind the other and it is asked for at the end.
type reader struct {
	v    api.Version // what was read up to now
	left string
	e    api.Errno
}

func (r *reader) id() {
	fixed := func(s string) (uint64, string, api.Errno) { return varint.Fixed(s, idBytes) }
	step(r, fixed, func(n uint64) { r.v.Id = uint32(n) })
}

func (r *reader) block() {
	step(r, hash, func(h api.Hash) { r.v.Blocks = append(r.v.Blocks, h) })
}

func (r *reader) file() {
	step(r, varint.Read, func(name string) { r.v.Names = append(r.v.Names, name) })
	step(r, upTo(api.MaxFile), func(size int) { r.v.Sizes = append(r.v.Sizes, size) })
}

// many reads how many things there are, and each by one.
func (r *reader) many(most uint64, one func()) {
	step(r, upTo(most), func(n int) {
		for range n {
			one()
		}
	})
}

func (r *reader) end() {
	if r.e == api.OK && !May(r.v) {
		r.e = api.ErrArg
	}
}

// step keeps what read takes off the bytes that are left.
func step[T any](r *reader, read func(string) (T, string, api.Errno), keep func(T)) {
	if r.e != api.OK {
		return
	}
	thing, rest, e := read(r.left)
	if e != api.OK {
		r.e = e
		return
	}
	r.left = rest
	keep(thing)
}

// hash is the one that s begins by, and the bytes behind.
func hash(s string) (api.Hash, string, api.Errno) {
	var h api.Hash
	if len(s) < len(h) {
		return h, "", api.ErrShort
	}
	copy(h[:], s)
	return h, s[len(h):], api.OK
}

// upTo is a function that tells the number that a text begins by, most at most, and the bytes behind.
func upTo(most uint64) func(string) (int, string, api.Errno) {
	return func(s string) (int, string, api.Errno) {
		n, rest, e := varint.Get(s)
		if e != api.OK {
			return 0, "", e
		}
		// Held against most as it was read: a great number could become a small int, or one below 0.
		if n > most {
			return 0, "", api.ErrSize
		}
		return int(n), rest, api.OK
	}
}
