package slots

import (
	"hanaper/api"
	"hanaper/check"
	"hanaper/varint"
)

// slot is what stands in one; without a text it is the zero slot.
type slot struct {
	full   bool // the number 0 and an empty text are a text, too
	number uint64
	text   string
}

// slotOf is what the bytes of a slot come to.
func slotOf(s string) slot {
	framed, _, e := check.First(s)
	if e != api.OK {
		return slot{}
	}
	number, text, e := varint.Fixed(framed, numberBytes)
	if e != api.OK {
		return slot{}
	}
	return slot{full: true, number: number, text: text}
}

// newer is the slot with the greater number, of the same the first one; it has no text only if neither has one.
func newer(both [slotsOfPair]slot) slot {
	empty := slot{}
	// Whether b is empty need not be asked: its number is 0 then, which is above no other.
	older := func(a, b slot) bool {
		return a == empty || a.number < b.number
	}
	if older(both[0], both[1]) {
		return both[1]
	}
	return both[0]
}
