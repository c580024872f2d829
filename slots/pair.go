package slots

import (
	"slices"
	"strings"

	"hanaper/api"
	"hanaper/check"
	"hanaper/disk"
	"hanaper/varint"
)

const slotsOfPair = 2

// pair is both slots of a disk, one behind the other.
type pair struct {
	disk    *disk.Disk
	from    int
	sectors int // of each slot
}

// pairOf refuses what are no slots of the disk.
func pairOf(d *disk.Disk, from, sectors int) (pair, api.Errno) {
	if sectors < 1 || sectors > mostSectors {
		return pair{}, api.ErrArg
	}
	if from < 0 || from > d.Sectors()-slotsOfPair*sectors {
		return pair{}, api.ErrArg
	}
	return pair{disk: d, from: from, sectors: sectors}, api.OK
}

// start is the first sector of a slot.
func (p pair) start(i int) int {
	return p.from + i*p.sectors
}

// last is the slot whose text was saved last.
func (p pair) last() (slot, api.Errno) {
	var both [slotsOfPair]slot
	for i := range both {
		s, e := p.read(i)
		if e != api.OK {
			return slot{}, e
		}
		both[i] = slotOf(s)
	}
	last := newer(both)
	if last == (slot{}) {
		return slot{}, api.ErrSlot
	}
	return last, api.OK
}

// read is all that stands in a slot.
func (p pair) read(i int) (string, api.Errno) {
	var b strings.Builder
	for k := range p.sectors {
		s, e := p.disk.Read(p.start(i) + k)
		if e != api.OK {
			return "", e
		}
		b.WriteString(s)
	}
	return b.String(), api.OK
}

// save makes a text safe in the slot of its number: numbers take turns, so that the text of the one ahead stays.
func (p pair) save(number uint64, s string) api.Errno {
	framed, e := check.Frame(varint.Big(number, numberBytes) + s)
	if e != api.OK {
		return e
	}
	at := p.start(int(number % slotsOfPair))
	for sector := range slices.Chunk([]byte(filled(framed)), api.Sector) {
		if e := p.disk.Write(at, string(sector)); e != api.OK {
			return e
		}
		at++
	}
	return p.disk.Sync()
}

// filled is s and as many bytes 0 as whole sectors need.
func filled(s string) string {
	over := len(s) % api.Sector
	if over == 0 {
		return s
	}
	return s + strings.Repeat("\x00", api.Sector-over)
}
