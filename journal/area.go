package journal

import (
	"iter"
	"strings"

	"hanaper/api"
	"hanaper/disk"
)

// area is the sectors from to to - 1 of a disk.
type area struct {
	disk     *disk.Disk
	from, to int
}

// areaOf refuses what is no area of the disk.
func areaOf(d *disk.Disk, from, to int) (area, api.Errno) {
	if from < 0 || to <= from || to > d.Sectors() {
		return area{}, api.ErrArg
	}
	return area{disk: d, from: from, to: to}, api.OK
}

// text is all that stands in the area.
func (a area) text() (string, api.Errno) {
	return joined(a.from, a.to, a.disk.Read)
}

// put makes s safe, from the sector at on.
func (a area) put(at int, s string) api.Errno {
	for i, sector := range sectors(at, s) {
		if e := a.disk.Write(i, sector); e != api.OK {
			return e
		}
	}
	return a.disk.Sync()
}

// blank makes bytes 0 of a sector, if the area has it.
func (a area) blank(at int) api.Errno {
	if at >= a.to {
		return api.OK
	}
	// One byte does: put fills its sector up.
	return a.put(at, "\x00")
}

// joined is what read tells of all sectors from to to - 1.
func joined(from, to int, read func(int) (string, api.Errno)) (string, api.Errno) {
	var b strings.Builder
	for i := from; i < to; i++ {
		s, e := read(i)
		if e != api.OK {
			return "", e
		}
		b.WriteString(s)
	}
	return b.String(), api.OK
}

// sectors tells where each sector of s is to stand, and its bytes: what is missing of the last one are bytes 0.
func sectors(at int, s string) iter.Seq2[int, string] {
	return func(yield func(int, string) bool) {
		n := sectorsFor(len(s))
		filled := s + strings.Repeat("\x00", n*api.Sector-len(s))
		for i := range n {
			if !yield(at+i, filled[i*api.Sector:(i+1)*api.Sector]) {
				return
			}
		}
	}
}

// sectorsFor is how many sectors so many bytes take.
func sectorsFor(bytes int) int {
	return (bytes + api.Sector - 1) / api.Sector
}
