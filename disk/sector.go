package disk

import "hanaper/api"

const (
	sectorParts = 4 // a torn sector has some of them, but not all
	partBytes   = api.Sector / sectorParts
)

// sector is an array: whoever takes one has a copy of it.
type sector [api.Sector]byte

func sectorOf(s string) sector {
	var b sector
	copy(b[:], s)
	return b
}

func (b sector) text() string {
	return string(b[:])
}

// crashed is what a crash leaves of b and the writes that are pending on it: as many whole ones as keep says, and as many parts of the next one.
func (b sector) crashed(writes []sector, keep uint8) sector {
	whole := int(keep) / sectorParts % (len(writes) + 1)
	parts := int(keep) % sectorParts
	if whole > 0 {
		b = writes[whole-1]
	}
	if whole < len(writes) {
		copy(b[:], writes[whole][:parts*partBytes])
	}
	return b
}
