package store_test

import (
	"crypto/sha256"
	"encoding/binary"
	"fmt"
	"hash/crc32"
	"math"
	"math/rand"
	"slices"
	"strings"
	"sync"
	"testing"

	"hanaper/api"
	"hanaper/disk"
	"hanaper/journal"
	"hanaper/store"
)

const (
	sectorBytes = 32
	mostBytes   = 1023
	mostBlocks  = 20
)

var empty = strings.Repeat("\x00", sectorBytes)

// nameOf is a block's name by Go's library.
func nameOf(b string) api.Hash {
	return sha256.Sum256([]byte(b))
}

func namesOf(blocks ...string) []api.Hash {
	var l []api.Hash
	for _, b := range blocks {
		l = append(l, nameOf(b))
	}
	return l
}

// mark is what is framed of an epoch, by Go's library.
func mark(epoch uint64) string {
	return string(binary.BigEndian.AppendUint64([]byte("M"), epoch))
}

// stands is a text's frame as a journal has it, by Go's library.
func stands(s string) []string {
	size := binary.BigEndian.AppendUint16(nil, uint16(len(s)))
	sum := crc32.ChecksumIEEE(append(slices.Clone(size), s...))
	s = string(binary.BigEndian.AppendUint32(size, sum)) + s
	var l []string
	for ; len(s) > sectorBytes; s = s[sectorBytes:] {
		l = append(l, s[:sectorBytes])
	}
	return append(l, s+empty[len(s):])
}

// sectorsOf is how many sectors a block takes.
func sectorsOf(b string) int {
	return (len(b) + 1 + 6 + 31) / 32
}

// counted is a text of n bytes, others than those of the next k.
func counted(n, k int) string {
	b := make([]byte, n)
	for i := range b {
		b[i] = byte(37*k + i%251 + 1)
	}
	return string(b)
}

func someText(r *rand.Rand, n int) string {
	b := make([]byte, n)
	r.Read(b)
	return string(b)
}

// must is for steps that are no test's own.
func must(t *testing.T, e api.Errno) {
	t.Helper()
	if e != api.OK {
		t.Fatalf("error %d", e)
	}
}

func checkError(t *testing.T, why string, got, want api.Errno) {
	t.Helper()
	if got != want {
		t.Errorf("%s: %d, want %d", why, got, want)
	}
}

func opened(t *testing.T, why string, d *disk.Disk, from, mid, to int) *store.Store {
	t.Helper()
	s, e := store.Open(d, from, mid, to)
	if s == nil || e != api.OK {
		t.Fatalf("%s: Open(%d, %d, %d) = %v, %d", why, from, mid, to, s != nil, e)
	}
	return s
}

// checkStore holds all that a store tells against what is wanted.
func checkStore(t *testing.T, why string, s *store.Store, room int, blocks ...string) {
	t.Helper()
	if got := s.Room(); got != room {
		t.Errorf("%s: room for %d, want %d", why, got, room)
	}
	if got := s.All(); !slices.Equal(got, namesOf(blocks...)) {
		t.Fatalf("%s: %d names, %x, want %x", why, len(got), got, namesOf(blocks...))
	}
	for _, want := range blocks {
		if got, e := s.Get(nameOf(want)); got != want || e != api.OK {
			t.Fatalf("%s: Get = %q, %d, want %q", why, got, e, want)
		}
	}
}

// checkPut puts a block that is to be taken.
func checkPut(t *testing.T, why string, s *store.Store, b string) {
	t.Helper()
	if h, e := s.Put(b); h != nameOf(b) || e != api.OK {
		t.Fatalf("%s: Put of %d bytes = %x, %d, want %x", why, len(b), h, e, nameOf(b))
	}
}

// checkNoPut puts a block that is to be refused.
func checkNoPut(t *testing.T, why string, s *store.Store, b string, want api.Errno) {
	t.Helper()
	if h, e := s.Put(b); h != (api.Hash{}) || e != want {
		t.Fatalf("%s: Put of %d bytes = %x, %d, want %d alone", why, len(b), h, e, want)
	}
}

func checkNone(t *testing.T, why string, s *store.Store, names ...api.Hash) {
	t.Helper()
	for _, h := range names {
		if b, e := s.Get(h); b != "" || e != api.ErrNone {
			t.Fatalf("%s: Get = %q, %d, want %d alone", why, b, e, api.ErrNone)
		}
	}
}

// framesIn holds what a journal has against what is wanted.
func framesIn(t *testing.T, why string, d *disk.Disk, from, to int, want ...string) {
	t.Helper()
	_, l, e := journal.Open(d, from, to)
	if e != api.OK || !slices.Equal(l, want) {
		t.Fatalf("%s: frames in %d to %d: %q, %d, want %q", why, from, to, l, e, want)
	}
}

// fill makes frames of a journal, and no others.
func fill(t *testing.T, d *disk.Disk, from, to int, frames ...string) {
	t.Helper()
	must(t, journal.Clear(d, from, to))
	j, _, e := journal.Open(d, from, to)
	must(t, e)
	for _, s := range frames {
		must(t, j.Append(s))
	}
}

// numbered is a disk of n sectors that are all others, and no frames.
func numbered(t *testing.T, n int) *disk.Disk {
	t.Helper()
	d := disk.New(n)
	for i := range n {
		must(t, d.Write(i, counted(sectorBytes, i+5)))
	}
	must(t, d.Sync())
	return d
}

// stateOf is all that can be seen of a disk's sectors: what was written last of each, and what is safe.
func stateOf(t *testing.T, d *disk.Disk) []string {
	t.Helper()
	_, e := d.Read(0)
	off := e == api.ErrOff
	if off {
		d.Off(1)
	}
	var l []string
	for i := range d.Sectors() {
		s, e := d.Read(i)
		must(t, e)
		l = append(l, s, d.Safe(i))
	}
	if off {
		d.Off(0)
	}
	return l
}

func checkSame(t *testing.T, why string, got, want *disk.Disk) {
	t.Helper()
	a, b := stateOf(t, got), stateOf(t, want)
	for i := range b {
		if a[i] != b[i] {
			t.Fatalf("%s: sector %d (safe: %v) is %q, want %q", why, i/2, i%2 == 1, a[i], b[i])
		}
	}
	_, e := got.Read(0)
	_, f := want.Read(0)
	if e != f {
		t.Fatalf("%s: the disk tells %d, want %d", why, e, f)
	}
}

func checkUntouched(t *testing.T, why string, d *disk.Disk, was []string) {
	t.Helper()
	if !slices.Equal(stateOf(t, d), was) {
		t.Errorf("%s: the disk has changed", why)
	}
}

// plain is a store by the chapter's words, on a disk of its own.
type plain struct {
	d      *disk.Disk
	bounds []int
	used   int
	epoch  uint64
	j      *journal.Journal
	blocks []string
}

// plainFrames is what frames come to: an epoch, whether there is one, and blocks.
func plainFrames(l []string) (uint64, bool, []string) {
	epoch, marked := uint64(0), false
	var blocks []string
	for _, s := range l {
		if strings.HasPrefix(s, "M") && len(s) == 9 {
			epoch, marked = binary.BigEndian.Uint64([]byte(s[1:])), true
		}
		if strings.HasPrefix(s, "B") && !slices.Contains(blocks, s[1:]) {
			blocks = append(blocks, s[1:])
		}
	}
	return epoch, marked, blocks
}

func plainOpen(d *disk.Disk, from, mid, to int) (*plain, api.Errno) {
	lower, l, e := journal.Open(d, from, mid)
	if e != api.OK {
		return nil, e
	}
	upper, u, e := journal.Open(d, mid, to)
	if e != api.OK {
		return nil, e
	}
	p := &plain{d: d, bounds: []int{from, mid, to}}
	lowerEpoch, lowerMarked, lowerBlocks := plainFrames(l)
	upperEpoch, upperMarked, upperBlocks := plainFrames(u)
	switch {
	case lowerMarked && upperMarked && lowerEpoch >= upperEpoch, lowerMarked && !upperMarked:
		p.used, p.epoch, p.j, p.blocks = 0, lowerEpoch, lower, lowerBlocks
		return p, api.OK
	case upperMarked:
		p.used, p.epoch, p.j, p.blocks = 1, upperEpoch, upper, upperBlocks
		return p, api.OK
	}
	if e := journal.Clear(d, from, mid); e != api.OK {
		return nil, e
	}
	if p.j, _, e = journal.Open(d, from, mid); e != api.OK {
		return nil, e
	}
	p.epoch = 1
	return p, p.j.Append(mark(1))
}

func (p *plain) put(b string) (api.Hash, api.Errno) {
	if len(b) > mostBytes {
		return api.Hash{}, api.ErrCap
	}
	if slices.Contains(p.blocks, b) {
		return nameOf(b), api.OK
	}
	if len(p.blocks) >= mostBlocks {
		return api.Hash{}, api.ErrQuota
	}
	if e := p.j.Append("B" + b); e != api.OK {
		return api.Hash{}, e
	}
	p.blocks = append(p.blocks, b)
	return nameOf(b), api.OK
}

func (p *plain) sweep(keep []api.Hash) api.Errno {
	i := 1 - p.used
	if e := journal.Clear(p.d, p.bounds[i], p.bounds[i+1]); e != api.OK {
		return e
	}
	j, _, e := journal.Open(p.d, p.bounds[i], p.bounds[i+1])
	if e != api.OK {
		return e
	}
	var blocks []string
	for _, b := range p.blocks {
		if slices.Contains(keep, nameOf(b)) {
			if e := j.Append("B" + b); e != api.OK {
				return e
			}
			blocks = append(blocks, b)
		}
	}
	if e := j.Append(mark(p.epoch + 1)); e != api.OK {
		return e
	}
	p.used, p.epoch, p.j, p.blocks = i, p.epoch+1, j, blocks
	return api.OK
}

// both is a store and a plain one, that are asked the same.
type both struct {
	got, want *disk.Disk
	s         *store.Store
	p         *plain
}

func (x *both) open(t *testing.T, why string, from, mid, to int) {
	t.Helper()
	s, e := store.Open(x.got, from, mid, to)
	p, f := plainOpen(x.want, from, mid, to)
	checkError(t, why, e, f)
	if (s != nil) != (e == api.OK) {
		t.Fatalf("%s: a store, and the error %d", why, e)
	}
	if e == api.OK {
		x.s, x.p = s, p
	}
}

func (x *both) put(t *testing.T, why, b string) {
	t.Helper()
	h, e := x.s.Put(b)
	k, f := x.p.put(b)
	if h != k || e != f {
		t.Fatalf("%s: Put = %x, %d, want %x, %d", why, h, e, k, f)
	}
}

func (x *both) sweep(t *testing.T, why string, keep []api.Hash) {
	t.Helper()
	checkError(t, why, x.s.Sweep(keep), x.p.sweep(keep))
}

func (x *both) check(t *testing.T, why string) {
	t.Helper()
	checkSame(t, why, x.got, x.want)
	if x.s != nil {
		checkStore(t, why, x.s, x.p.j.Room(), x.p.blocks...)
	}
}

// P15.1

func checkRefused(t *testing.T, why string, d *disk.Disk, from, mid, to int, want api.Errno) {
	t.Helper()
	if s, e := store.Open(d, from, mid, to); s != nil || e != want {
		t.Errorf("%s: Open(%d, %d, %d) = %v, %d, want %d alone", why, from, mid, to, s != nil, e, want)
	}
}

func TestOpenOfEachPlace(t *testing.T) {
	for n := 1; n < 6; n++ {
		for from := -2; from < n+3; from++ {
			for mid := -2; mid < n+3; mid++ {
				for to := -2; to < n+3; to++ {
					d := numbered(t, n)
					if 0 <= from && from < mid && mid < to && to <= n {
						s := opened(t, "an area", d, from, mid, to)
						checkStore(t, "an area", s, mid-from-1)
						framesIn(t, "an area", d, from, mid, mark(1))
					} else {
						was := stateOf(t, d)
						checkRefused(t, "no area", d, from, mid, to, api.ErrArg)
						checkUntouched(t, "no area", d, was)
					}
				}
			}
		}
	}
}

func TestOpenOfGreatNumbers(t *testing.T) {
	l := []int{math.MinInt, math.MinInt + 1, math.MinInt32, -4097, -1, 0, 1, 2, 3, 4095, 4096, 4097, 1 << 16, 1<<32 + 1, 1<<32 + 3, math.MaxInt - 1, math.MaxInt}
	d := disk.New(4096)
	for _, from := range l {
		for _, mid := range l {
			for _, to := range l {
				if 0 <= from && from < mid && mid < to && to <= 4096 {
					must(t, journal.Clear(d, from, mid))
					must(t, journal.Clear(d, mid, to))
					checkStore(t, "an area", opened(t, "an area", d, from, mid, to), mid-from-1)
				} else {
					checkRefused(t, "no area", d, from, mid, to, api.ErrArg)
				}
			}
		}
	}
}

// The lower journal's errors come first, then the upper one's.
func TestOpenErrorsInOrder(t *testing.T) {
	for _, x := range []struct {
		from, mid, to int
		on, off       api.Errno
	}{
		{0, 3, 6, api.OK, api.ErrOff},
		{0, 3, 7, api.ErrArg, api.ErrOff},
		{0, 3, 3, api.ErrArg, api.ErrOff},
		{0, 6, 7, api.ErrArg, api.ErrOff},
		{0, 6, 6, api.ErrArg, api.ErrOff},
		{3, 3, 6, api.ErrArg, api.ErrArg},
		{-1, 3, 6, api.ErrArg, api.ErrArg},
		{0, 7, 6, api.ErrArg, api.ErrArg},
		{-1, 3, 7, api.ErrArg, api.ErrArg},
	} {
		d := numbered(t, 6)
		was := stateOf(t, d)
		d.Off(0)
		checkRefused(t, "off", d, x.from, x.mid, x.to, x.off)
		d.Off(1000)
		checkUntouched(t, "off", d, was)
		if x.on != api.OK {
			checkRefused(t, "on", d, x.from, x.mid, x.to, x.on)
			checkUntouched(t, "on", d, was)
		} else {
			opened(t, "on", d, x.from, x.mid, x.to)
		}
	}
}

// The bytes of a new store: the mark of the epoch 1, and a sector of bytes 0 behind it.
func TestOpenOfNoJournalKnown(t *testing.T) {
	d := numbered(t, 8)
	was := stateOf(t, d)
	s := opened(t, "no frames", d, 1, 5, 7)
	checkStore(t, "no frames", s, 3)
	sum := crc32.ChecksumIEEE([]byte("\x00\x09M\x00\x00\x00\x00\x00\x00\x00\x01"))
	first := "\x00\x09" + string(binary.BigEndian.AppendUint32(nil, sum)) + "M\x00\x00\x00\x00\x00\x00\x00\x01"
	for len(first) < sectorBytes {
		first += "\x00"
	}
	was[2], was[3], was[4], was[5] = first, first, empty, empty
	checkUntouched(t, "no frames", d, was)
}

// A new store is begun by journal's steps: where the power goes under them, ErrOff, and no store.
func TestOpenStepByStep(t *testing.T) {
	for _, lower := range []int{1, 2, 5} {
		steps := 6
		if lower == 1 {
			steps = 4 // no sector is behind the mark
		}
		for after := range steps + 3 {
			x := &both{got: numbered(t, lower+5), want: numbered(t, lower+5)}
			x.got.Off(after)
			x.want.Off(after)
			why := fmt.Sprintf("%d sectors, off behind %d", lower, after)
			x.open(t, why, 1, lower+1, lower+4)
			if (x.s != nil) != (after >= steps) {
				t.Errorf("%s: %v", why, x.s != nil)
			}
			x.check(t, why)
		}
	}
}

// Without an epoch what is in the journals is nothing: the lower one is cleared, the upper one stays.
func TestOpenWithoutAnEpoch(t *testing.T) {
	for _, lower := range [][]string{nil, {"Ba"}, {"Ba", "Bb", "Bc"}, {""}, {"M"}, {mark(7)[:8], "Ba"}, {mark(7) + "\x00"}, {"m" + mark(7)[1:]}} {
		for _, upper := range [][]string{nil, {"Bd"}, {"Bd", "M"}, {mark(9) + "x", "Be"}} {
			d := numbered(t, 20)
			fill(t, d, 0, 10, lower...)
			fill(t, d, 10, 20, upper...)
			s := opened(t, "no epoch", d, 0, 10, 20)
			checkStore(t, "no epoch", s, 9)
			checkNone(t, "no epoch", s, namesOf("a", "b", "c", "d", "e", "")...)
			framesIn(t, "no epoch", d, 0, 10, mark(1))
			framesIn(t, "no epoch", d, 10, 20, upper...)
			checkPut(t, "no epoch", s, "f")
			checkStore(t, "again", opened(t, "again", d, 0, 10, 20), 8, "f")
		}
	}
}

// The journal with the greater epoch is used; of the same the lower one; an epoch that is 0 is one, too.
func TestOpenTakesTheGreaterEpoch(t *testing.T) {
	epochs := []uint64{0, 1, 2, 255, 256, 1<<32 - 1, 1 << 32, 1<<63 - 1, 1 << 63, math.MaxUint64 - 1, math.MaxUint64}
	for i := -1; i < len(epochs); i++ {
		for k := -1; k < len(epochs); k++ {
			if i < 0 && k < 0 {
				continue
			}
			lower, upper := []string{"Blower"}, []string{"Bupper", "Bmore"}
			if i >= 0 {
				lower = append(lower, mark(epochs[i]))
			}
			if k >= 0 {
				upper = append(upper, mark(epochs[k]))
			}
			d := numbered(t, 20)
			fill(t, d, 0, 10, lower...)
			fill(t, d, 10, 20, upper...)
			was := stateOf(t, d)
			d.Off(1)
			s := opened(t, "an epoch", d, 0, 10, 20)
			checkUntouched(t, "an epoch", d, was)
			must(t, d.Sync())
			if k > i {
				checkStore(t, fmt.Sprint("epochs ", i, k), s, 7, "upper", "more")
			} else {
				checkStore(t, fmt.Sprint("epochs ", i, k), s, 8, "lower")
			}
		}
	}
}

// A journal's epoch is that of its last mark, the lesser one, too.
func TestOpenTakesTheLastMark(t *testing.T) {
	for _, x := range []struct {
		lower, upper []string
		used         int
	}{
		{[]string{mark(9), mark(2), "Ba"}, []string{mark(3), "Bb"}, 1},
		{[]string{mark(2), mark(9), "Ba"}, []string{mark(3), "Bb"}, 0},
		{[]string{mark(2), "Ba"}, []string{mark(3), "Bb", mark(1)}, 0},
		{[]string{mark(2), "Ba"}, []string{mark(1), "Bb", mark(3)}, 1},
		{[]string{mark(2), "Ba", mark(5)[:8]}, []string{mark(3), "Bb"}, 1},
		{[]string{mark(2), "Ba", mark(5) + "x"}, []string{mark(3), "Bb"}, 1},
		{[]string{mark(2), "Ba", "M"}, []string{mark(1), "Bb"}, 0},
		{[]string{mark(0), "Ba"}, []string{"Bb"}, 0},
		{[]string{"Ba"}, []string{mark(0), "Bb"}, 1},
		{[]string{mark(5), mark(0), "Ba"}, []string{mark(1), "Bb"}, 1},
	} {
		d := numbered(t, 20)
		fill(t, d, 0, 10, x.lower...)
		fill(t, d, 10, 20, x.upper...)
		s := opened(t, "marks", d, 0, 10, 20)
		if x.used == 0 {
			checkStore(t, fmt.Sprintf("%q, %q", x.lower, x.upper), s, 10-len(x.lower), "a")
		} else {
			checkStore(t, fmt.Sprintf("%q, %q", x.lower, x.upper), s, 10-len(x.upper), "b")
		}
	}
}

// Blocks are found wherever the mark is, each name once, as its first one came; frames that are no blocks are nothing.
func TestOpenFindsBlocks(t *testing.T) {
	for _, x := range []struct{ frames, blocks []string }{
		{[]string{mark(1)}, nil},
		{[]string{mark(1), "Ba", "Bb"}, []string{"a", "b"}},
		{[]string{"Ba", mark(1), "Bb"}, []string{"a", "b"}},
		{[]string{"Bb", "Ba", mark(1)}, []string{"b", "a"}},
		{[]string{mark(1), "Ba", mark(2), "Bb"}, []string{"a", "b"}},
		{[]string{mark(1), "B"}, []string{""}},
		{[]string{mark(1), "B", "Ba", "B", "B"}, []string{"", "a"}},
		{[]string{mark(1), "Ba", "Bb", "Ba", "Bc", "Bb", "Ba"}, []string{"a", "b", "c"}},
		{[]string{mark(1), "", "ba", "A", "Ca", "\x00", "\xff", "BB", "BM", "B" + mark(7)}, []string{"B", "M", mark(7)}},
		{[]string{"", mark(1), "", "Ba", ""}, []string{"a"}},
		{[]string{mark(1), "B" + counted(1023, 1), "B" + counted(1022, 1)}, []string{counted(1023, 1), counted(1022, 1)}},
	} {
		for _, upper := range []int{0, 1} {
			d := numbered(t, 160)
			fill(t, d, 80*upper, 80*upper+80, x.frames...)
			j, _, _ := journal.Open(d, 80*upper, 80*upper+80)
			checkStore(t, fmt.Sprintf("%.80q", x.frames), opened(t, "frames", d, 0, 80, 160), j.Room(), x.blocks...)
		}
	}
}

// A journal that others wrote may have more blocks than a store takes.
func TestOpenOfManyBlocks(t *testing.T) {
	for _, n := range []int{19, 20, 21, 300} {
		frames, blocks := []string{mark(3)}, []string(nil)
		for k := range n {
			blocks = append(blocks, fmt.Sprint("block ", k))
			frames = append(frames, "B"+blocks[k])
		}
		d := disk.New(800)
		fill(t, d, 400, 800, frames...)
		s := opened(t, "many", d, 0, 400, 800)
		checkStore(t, "many", s, 400-n-1, blocks...)
		checkPut(t, "many", s, "block 0")
		if n < mostBlocks {
			checkPut(t, "many", s, "one more")
			blocks = append(blocks, "one more")
		} else {
			checkNoPut(t, "many", s, "one more", api.ErrQuota)
		}
		must(t, s.Sweep(namesOf(blocks...)))
		checkStore(t, "swept", s, 400-len(blocks)-1, blocks...)
	}
}

// P15.2

func TestPutOfEachSize(t *testing.T) {
	d := disk.New(80)
	for n := range mostBytes + 1 {
		fill(t, d, 0, 40, mark(1))
		s := opened(t, "one mark", d, 0, 40, 80)
		b := counted(n, n)
		why := fmt.Sprint(n, " bytes")
		checkNone(t, why, s, nameOf(b))
		checkPut(t, why, s, b)
		checkStore(t, why, s, 39-sectorsOf(b), b)
		for i, want := range append(stands("B"+b), empty) {
			if got := d.Safe(1 + i); got != want {
				t.Fatalf("%s: sector %d is %q, want %q", why, i, got, want)
			}
		}
		checkStore(t, "again", opened(t, "again", d, 0, 40, 80), 39-sectorsOf(b), b)
	}
	for n := mostBytes + 1; n < mostBytes+300; n++ {
		s := opened(t, "again", d, 0, 40, 80)
		checkNoPut(t, "too long", s, counted(n, 1), api.ErrCap)
		checkStore(t, "too long", s, 39-33, counted(mostBytes, mostBytes))
	}
}

func TestPutKnownNames(t *testing.T) {
	s := opened(t, "bytes 0", disk.New(20), 0, 10, 20)
	for _, x := range [][2]string{
		{"abc", "ba7816bf8f01cfea414140de5dae2223b00361a396177a9cb410ff61f20015ad"},
		{"", "e3b0c44298fc1c149afbf4c8996fb92427ae41e4649b934ca495991b7852b855"},
	} {
		h, e := s.Put(x[0])
		if fmt.Sprintf("%x", h) != x[1] || e != api.OK {
			t.Errorf("%q: %x, %d", x[0], h, e)
		}
	}
}

// A block that is there is not written again, and stays where it is.
func TestPutTwice(t *testing.T) {
	d := disk.New(40)
	s := opened(t, "bytes 0", d, 0, 20, 40)
	l := []string{"a", "", "b", counted(100, 1), "B", "M"}
	for _, b := range l {
		checkPut(t, "once", s, b)
	}
	was := stateOf(t, d)
	d.Off(1)
	for range 3 {
		for _, i := range []int{3, 1, 0, 2, 5, 4} {
			checkPut(t, "twice", s, l[i])
			checkStore(t, "twice", s, 20-1-5-4, l...)
		}
	}
	checkUntouched(t, "twice", d, was)
	must(t, d.Sync())
	checkPut(t, "without power", s, "a")
	checkNoPut(t, "without power", s, "c", api.ErrOff)
	checkStore(t, "without power", s, 20-1-5-4, l...)
	d.Crash(nil)
	s = opened(t, "again", d, 0, 20, 40)
	for _, b := range l {
		checkPut(t, "again", s, b)
	}
	checkStore(t, "again", s, 20-1-5-4, l...)
	must(t, s.Sweep(namesOf("b")))
	checkPut(t, "swept", s, "b")
	checkStore(t, "swept", s, 18, "b")
	checkPut(t, "swept", s, "a")
	checkStore(t, "swept", s, 17, "b", "a")
}

func TestPutTillTheQuota(t *testing.T) {
	d := disk.New(200)
	s := opened(t, "bytes 0", d, 0, 100, 200)
	var l []string
	for k := range mostBlocks {
		l = append(l, counted(k, k))
		checkPut(t, "till 20", s, l[k])
		checkStore(t, "till 20", s, 99-len(l), l...)
	}
	was := stateOf(t, d)
	for k := range 5 {
		checkNoPut(t, "20", s, counted(k+30, k), api.ErrQuota)
		checkPut(t, "one of 20", s, l[4*k])
	}
	checkUntouched(t, "20", d, was)
	s = opened(t, "again", d, 0, 100, 200)
	checkNoPut(t, "20", s, "x", api.ErrQuota)
	must(t, s.Sweep(namesOf(l[1:]...)))
	checkPut(t, "19", s, "x")
	checkNoPut(t, "20", s, "y", api.ErrQuota)
	checkStore(t, "20", s, 79, append(l[1:], "x")...)
}

// Which error comes first: of a block too long, one that is there, 20 of them, too little room, and no power.
func TestPutErrorsInOrder(t *testing.T) {
	for _, blocks := range []int{1, 19, 20} {
		for _, room := range []int{0, 1, 2, 32, 33, 40} {
			for _, off := range []bool{false, true} {
				for _, b := range []string{counted(1024, 1), counted(1023, 1), counted(26, 1), counted(25, 1), "", "block 0"} {
					from, mid := 2, 2+1+blocks+room
					d := disk.New(mid + 10)
					s := opened(t, "bytes 0", d, from, mid, mid+5)
					var l []string
					for k := range blocks {
						l = append(l, fmt.Sprint("block ", k))
						checkPut(t, "first ones", s, l[k])
					}
					if off {
						d.Off(0)
					}
					was := stateOf(t, d)
					why := fmt.Sprintf("%d blocks, room for %d, off %v", blocks, room, off)
					want := api.OK
					switch {
					case len(b) > mostBytes:
						want = api.ErrCap
					case b == "block 0":
					case blocks == mostBlocks:
						want = api.ErrQuota
					case sectorsOf(b) > room:
						want = api.ErrFull
					case off:
						want = api.ErrOff
					}
					if want == api.OK {
						checkPut(t, why, s, b)
						continue
					}
					checkNoPut(t, why, s, b, want)
					checkStore(t, why, s, room, l...)
					checkUntouched(t, why, d, was)
					checkNone(t, why, s, nameOf(b))
				}
			}
		}
	}
}

// Each step that a Put takes is journal's: with an error the block is not there, and the next one comes in its place.
func TestPutStepByStep(t *testing.T) {
	for _, n := range []int{0, 25, 26, 300} {
		for after := range 2 + (n+38)/32 + 1 + 3 {
			x := &both{got: numbered(t, 40), want: numbered(t, 40)}
			x.open(t, "an area", 1, 20, 38)
			x.put(t, "first", "first")
			x.got.Off(after)
			x.want.Off(after)
			why := fmt.Sprintf("%d bytes, off behind %d", n, after)
			x.put(t, why, counted(n, 1))
			x.check(t, why)
			x.got.Off(100)
			x.want.Off(100)
			x.put(t, why, "next")
			x.put(t, why, counted(n, 1))
			x.check(t, why)
			x.got.Crash(nil)
			x.want.Crash(nil)
			x.open(t, why, 1, 20, 38)
			x.check(t, why)
		}
	}
}

func TestGetOfOtherNames(t *testing.T) {
	d := disk.New(60)
	s := opened(t, "bytes 0", d, 0, 30, 60)
	checkNone(t, "no blocks", s, api.Hash{}, nameOf(""), nameOf("a"))
	checkPut(t, "a block", s, "abc")
	checkPut(t, "a block", s, "")
	h := nameOf("abc")
	for i := range h {
		for bit := range 8 {
			other := h
			other[i] ^= 1 << bit
			checkNone(t, "a bit turned", s, other)
		}
	}
	checkNone(t, "others", s, api.Hash{}, nameOf("Babc"), nameOf("ab"), nameOf(mark(1)))
	d.Off(0)
	checkStore(t, "off", s, 27, "abc", "")
	checkNone(t, "off", s, nameOf("x"))
	d.Crash(nil)
	must(t, s.Sweep(namesOf("")))
	checkNone(t, "swept", s, h)
	checkStore(t, "swept", s, 28, "")
}

// P15.3

// Kept blocks stand in the other journal, in their order, whatever keep's order is, and a mark behind them.
func TestSweepKeeps(t *testing.T) {
	l := []string{"a", "", counted(90, 1), "d", "e"}
	for bits := range 64 {
		var keep []api.Hash
		var kept, swept, frames []string
		for i, b := range l {
			if bits>>i&1 == 1 {
				keep = slices.Insert(keep, 0, nameOf(b), nameOf("none"), nameOf(b))
				kept = append(kept, b)
				frames = append(frames, "B"+b)
			} else {
				swept = append(swept, b)
			}
		}
		if bits >= 32 {
			slices.Reverse(keep)
		}
		was := slices.Clone(keep)
		d := numbered(t, 60)
		s := opened(t, "no frames", d, 0, 30, 60)
		for _, b := range l {
			checkPut(t, "put", s, b)
		}
		stood := stateOf(t, d)[:60]
		checkError(t, "Sweep", s.Sweep(keep), api.OK)
		if !slices.Equal(keep, was) {
			t.Fatal("keep has changed")
		}
		framesIn(t, "swept", d, 30, 60, append(frames, mark(2))...)
		if !slices.Equal(stateOf(t, d)[:60], stood) {
			t.Error("the journal that was swept has changed")
		}
		j, _, _ := journal.Open(d, 30, 60)
		checkStore(t, "swept", s, j.Room(), kept...)
		checkNone(t, "swept", s, namesOf(swept...)...)
		d.Crash(nil)
		checkStore(t, "again", opened(t, "again", d, 0, 30, 60), j.Room(), kept...)
	}
}

// Sweeps take turns: each one's journal is the other one, its epoch one more; what is put goes where the last one went.
func TestSweepsTakeTurns(t *testing.T) {
	d := numbered(t, 70)
	s := opened(t, "no frames", d, 3, 33, 68)
	was := stateOf(t, d)
	frames := [2][]string{{mark(1)}, nil}
	areas := [2][2]int{{3, 33}, {33, 68}}
	var l []string
	for k := range 12 {
		b := counted(k, k)
		checkPut(t, "put", s, b)
		l = append(l, b)
		used := k % 2
		frames[used] = append(frames[used], "B"+b)
		if k%3 == 2 {
			l = l[1:]
		}
		must(t, s.Sweep(namesOf(l...)))
		frames[1-used] = nil
		for _, x := range l {
			frames[1-used] = append(frames[1-used], "B"+x)
		}
		frames[1-used] = append(frames[1-used], mark(uint64(k+2)))
		for i, x := range areas {
			framesIn(t, fmt.Sprint("sweep ", k), d, x[0], x[1], frames[i]...)
		}
		if k%4 == 3 {
			s = opened(t, "again", d, 3, 33, 68)
		}
	}
	for _, i := range []int{0, 1, 2, 68, 69} {
		if !slices.Equal(stateOf(t, d)[2*i:2*i+2], was[2*i:2*i+2]) {
			t.Errorf("sector %d, beside the store, has changed", i)
		}
	}
}

// The epoch is that of the journal that was used, and 1, whatever the other one's was.
func TestSweepOfEpochs(t *testing.T) {
	for _, x := range []struct{ lower, upper, want uint64 }{{0, 0, 1}, {5, 5, 6}, {7, 3, 8}, {3, 7, 8}, {255, 9, 256}, {9, 1<<32 - 1, 1 << 32}, {1<<63 - 1, 0, 1 << 63}, {math.MaxUint64 - 1, 0, math.MaxUint64}, {0, math.MaxUint64, 0}} {
		d := disk.New(20)
		fill(t, d, 0, 10, mark(x.lower), "Ba")
		fill(t, d, 10, 20, mark(x.upper), "Ba")
		s := opened(t, "epochs", d, 0, 10, 20)
		must(t, s.Sweep(namesOf("a")))
		if x.upper > x.lower {
			framesIn(t, "epochs", d, 0, 10, "Ba", mark(x.want))
		} else {
			framesIn(t, "epochs", d, 10, 20, "Ba", mark(x.want))
		}
		checkStore(t, "epochs", s, 8, "a")
	}
}

// Where the other journal has no room for all, the store stays as it was; what was written there has no mark.
func TestSweepWithoutRoom(t *testing.T) {
	l := []string{"a", counted(40, 1), "c"} // 1, 2 and 1 sectors
	for size := 1; size < 7; size++ {
		d := numbered(t, 40)
		s := opened(t, "no frames", d, 0, 20, 20+size)
		for _, b := range l {
			checkPut(t, "put", s, b)
		}
		why := fmt.Sprintf("%d sectors", size)
		for range 2 {
			e := s.Sweep(namesOf(l...))
			if size >= 5 {
				checkError(t, why, e, api.OK)
				checkStore(t, why, s, size-5, l...)
				break
			}
			checkError(t, why, e, api.ErrFull)
			checkStore(t, why, s, 15, l...)
			framesIn(t, why, d, 20, 20+size, [][]string{{"Ba"}, {"Ba"}, {"Ba", "B" + l[1]}, {"Ba", "B" + l[1], "Bc"}}[size-1]...)
			checkStore(t, "again", opened(t, "again", d, 0, 20, 20+size), 15, l...)
		}
		if size < 5 {
			checkPut(t, why, s, "d")
			checkStore(t, why, s, 14, append(l, "d")...)
			d.Crash(nil)
			s = opened(t, "again", d, 0, 20, 20+size)
			checkStore(t, "again", s, 14, append(l, "d")...)
			checkError(t, why, s.Sweep(namesOf(l[2])), []api.Errno{api.ErrFull, api.OK, api.OK, api.OK}[size-1])
			checkError(t, why, s.Sweep(nil), api.OK)
		}
	}
}

// Each step of a Sweep, by where the power goes: behind an error the store is what it was, also when it is opened again.
func TestSweepStepByStep(t *testing.T) {
	for _, keep := range [][]api.Hash{nil, namesOf("b"), namesOf("a", counted(60, 1)), namesOf("a", "b", counted(60, 1), "x")} {
		for after := range 26 {
			for _, turned := range []bool{false, true} {
				x := &both{got: numbered(t, 44), want: numbered(t, 44)}
				x.open(t, "no frames", 1, 20, 42)
				for _, b := range []string{"a", "b", "", counted(60, 1)} {
					x.put(t, "put", b)
				}
				if turned {
					x.sweep(t, "turned", namesOf("a", "b", counted(60, 1)))
				}
				x.got.Off(after)
				x.want.Off(after)
				why := fmt.Sprintf("%d kept, off behind %d", len(keep), after)
				x.sweep(t, why, keep)
				x.check(t, why)
				x.got.Crash([]uint8{1})
				x.want.Crash([]uint8{1})
				x.put(t, why, "next")
				x.check(t, why)
				x.open(t, why, 1, 20, 42)
				x.check(t, why)
			}
		}
	}
}

func TestSweepWithoutPower(t *testing.T) {
	d := disk.New(40)
	s := opened(t, "bytes 0", d, 0, 20, 40)
	checkPut(t, "put", s, "a")
	was := stateOf(t, d)
	d.Off(0)
	for _, keep := range [][]api.Hash{nil, {}, namesOf("a"), namesOf("b")} {
		checkError(t, "off", s.Sweep(keep), api.ErrOff)
		checkStore(t, "off", s, 18, "a")
	}
	d.Off(100)
	checkUntouched(t, "off", d, was)
}

// P15.4

// crashed is what is found of a store whose disk has crashed; what goes on with it goes on.
func crashed(t *testing.T, why string, d *disk.Disk, keep []uint8, from, mid, to int) []api.Hash {
	t.Helper()
	d.Crash(keep)
	s := opened(t, why, d, from, mid, to)
	l := s.All()
	for _, h := range l {
		if b, e := s.Get(h); e != api.OK || nameOf(b) != h {
			t.Fatalf("%s: Get = %q, %d: it has another name", why, b, e)
		}
	}
	if s.Room() > 0 && len(l) < mostBlocks {
		checkPut(t, why, s, "goes on")
		if got := opened(t, why, d, from, mid, to).All(); !slices.Equal(got, append(slices.Clone(l), nameOf("goes on"))) {
			t.Fatalf("%s: %d blocks, and one more: %d", why, len(l), len(got))
		}
	}
	return l
}

func TestCrashInOpen(t *testing.T) {
	for after := range 9 {
		for keep := range 256 {
			d := numbered(t, 20)
			fill(t, d, 0, 10, "Ba", "Bb", "Bc")
			fill(t, d, 10, 20, "Bd")
			d.Off(after)
			_, e := store.Open(d, 0, 10, 20)
			if (e == api.OK) != (after >= 6) {
				t.Errorf("off behind %d: %d", after, e)
			}
			if l := crashed(t, "Open", d, []uint8{uint8(keep)}, 0, 10, 20); len(l) != 0 {
				t.Fatalf("off behind %d, keep %d: %d blocks", after, keep, len(l))
			}
		}
	}
}

func TestCrashInPut(t *testing.T) {
	ahead := []string{"first", counted(60, 1), counted(25, 2)}
	r := rand.New(rand.NewSource(1))
	for _, turns := range []int{0, 1, 2} {
		for _, n := range []int{0, 25, 26, 200} {
			b := counted(n, 7)
			steps := sectorsOf(b) + 3
			found, lost := 0, 0
			for after := range steps + 1 {
				for k := range 48 {
					how := []uint8{uint8(k)} // of one write of each sector there are eight ways
					if k >= 8 {
						how = []uint8(someText(r, r.Intn(12)))
					}
					d := disk.New(60)
					s := opened(t, "bytes 0", d, 0, 30, 60)
					for _, x := range ahead {
						checkPut(t, "ahead", s, x)
					}
					for range turns {
						must(t, s.Sweep(namesOf(ahead...)))
					}
					d.Off(after)
					_, e := s.Put(b)
					why := fmt.Sprintf("%d bytes, off behind %d, keep %v", n, after, how)
					l := crashed(t, why, d, how, 0, 30, 60)
					switch {
					case slices.Equal(l, namesOf(append(ahead[:3:3], b)...)):
						found++
					case e != api.OK && slices.Equal(l, namesOf(ahead...)):
						lost++
					default:
						t.Fatalf("%s: error %d, %d blocks", why, e, len(l))
					}
					if (e == api.OK) != (after == steps) {
						t.Fatalf("%s: error %d", why, e)
					}
				}
			}
			if found == 0 || lost == 0 {
				t.Errorf("%d bytes: found %d times, lost %d times", n, found, lost)
			}
		}
	}
}

// A sweep is done as a whole, or not at all, wherever the power goes, and whatever stood in the other journal.
func TestCrashInSweep(t *testing.T) {
	l := []string{"a", counted(60, 1), "", "d"}
	r := rand.New(rand.NewSource(2))
	for _, turns := range []int{0, 1, 2, 3} {
		for _, keep := range [][]api.Hash{nil, namesOf("d"), namesOf("a", counted(60, 1)), namesOf(l[1:]...)} {
			whole, none := 0, 0
			for after := range 22 {
				for k := range 28 {
					how := []uint8{uint8(k)}
					if k >= 8 {
						how = []uint8(someText(r, r.Intn(9)))
					}
					d := disk.New(60)
					s := opened(t, "bytes 0", d, 0, 30, 60)
					for _, b := range l {
						checkPut(t, "put", s, b)
					}
					for range turns {
						must(t, s.Sweep(namesOf(l...)))
					}
					d.Off(after)
					e := s.Sweep(keep)
					why := fmt.Sprintf("%d turns, %d kept, off behind %d, keep %v", turns, len(keep), after, how)
					found := crashed(t, why, d, how, 0, 30, 60)
					switch {
					case slices.Equal(found, keep):
						whole++
					case e != api.OK && slices.Equal(found, namesOf(l...)):
						none++
					default:
						t.Fatalf("%s: error %d, %d blocks", why, e, len(found))
					}
				}
			}
			if whole == 0 || none == 0 {
				t.Errorf("done %d times, not done %d times", whole, none)
			}
		}
	}
}

// history is a store whose disk loses its power again and again, with what is to be in it.
type history struct {
	t    *testing.T
	r    *rand.Rand
	d    *disk.Disk
	s    *store.Store
	mid  int
	sure []api.Hash
}

// crash holds what is found against what was sure, and what the step under way would have made.
func (h *history) crash(other []api.Hash) {
	h.d.Crash([]byte(someText(h.r, h.r.Intn(9))))
	h.s = opened(h.t, "a crash", h.d, 0, h.mid, h.d.Sectors())
	found := h.s.All()
	if !slices.Equal(found, h.sure) && !slices.Equal(found, other) {
		h.t.Fatalf("%d blocks are found, %d are sure, or %d", len(found), len(h.sure), len(other))
	}
	for _, name := range found {
		if b, e := h.s.Get(name); e != api.OK || nameOf(b) != name {
			h.t.Fatalf("%q, %d: not what was asked for", b, e)
		}
	}
	h.sure = found
}

func (h *history) put() {
	b := someText(h.r, h.r.Intn(120))
	name, e := h.s.Put(b)
	other := slices.Clone(h.sure)
	if !slices.Contains(other, nameOf(b)) {
		other = append(other, nameOf(b))
	}
	switch e {
	case api.OK:
		if name != nameOf(b) {
			h.t.Fatal("another name")
		}
		h.sure = other
	case api.ErrOff:
		h.crash(other)
	default:
		h.sweep()
	}
}

func (h *history) sweep() {
	var keep []api.Hash
	for _, name := range h.sure {
		if h.r.Intn(2) == 0 {
			keep = append(keep, name)
		}
	}
	switch e := h.s.Sweep(keep); e {
	case api.OK:
		h.sure = keep
	case api.ErrOff:
		h.crash(keep)
	case api.ErrFull:
		h.d.Off(1000)
		must(h.t, h.s.Sweep(nil))
		h.sure = nil
	}
}

func TestManyCrashes(t *testing.T) {
	r := rand.New(rand.NewSource(3))
	for range 100 {
		n := 10 + r.Intn(90)
		h := &history{t: t, r: r, d: disk.New(n), mid: 5 + r.Intn(n-9)}
		h.s = opened(t, "bytes 0", h.d, 0, h.mid, n)
		for range 150 {
			if r.Intn(3) == 0 {
				h.d.Off(r.Intn(15))
			}
			if r.Intn(8) == 0 {
				h.sweep()
			} else {
				h.put()
			}
			h.d.Off(1000)
			if r.Intn(10) == 0 {
				h.crash(h.sure)
			}
		}
	}
}

// All calls at random, on two stores of a disk, against the chapter's words on another disk.
func TestAgainstPlain(t *testing.T) {
	r := rand.New(rand.NewSource(4))
	for round := range 300 {
		n := 4 + r.Intn(60)
		x := &both{got: disk.New(n), want: disk.New(n)}
		y := &both{got: x.got, want: x.want}
		cuts := r.Perm(n - 1)[:3]
		slices.Sort(cuts)
		areas := [2][3]int{{0, cuts[0] + 1, cuts[1] + 1}, {cuts[1] + 1, cuts[2] + 1, n}}
		x.open(t, "bytes 0", areas[0][0], areas[0][1], areas[0][2])
		y.open(t, "bytes 0", areas[1][0], areas[1][1], areas[1][2])
		for step := range 60 {
			i := r.Intn(2)
			z, area := []*both{x, y}[i], areas[i]
			why := fmt.Sprintf("round %d, step %d", round, step)
			switch r.Intn(20) {
			case 0, 1:
				after := r.Intn(20) - 1
				x.got.Off(after)
				x.want.Off(after)
			case 2, 3, 4:
				keep := []byte(someText(r, r.Intn(6)))
				x.got.Crash(keep)
				x.want.Crash(keep)
			case 5, 6:
				z.open(t, why, area[0], area[1], area[2])
			case 7, 8, 9:
				var keep []api.Hash
				for _, b := range z.p.blocks {
					if r.Intn(3) > 0 {
						keep = append(keep, nameOf(b))
					}
				}
				r.Shuffle(len(keep), func(i, k int) { keep[i], keep[k] = keep[k], keep[i] })
				z.sweep(t, why, keep)
			case 10:
				at, s := r.Intn(n), stands([]string{"", "Bput", mark(uint64(r.Intn(5))), "Mx"}[r.Intn(4)])[0]
				checkError(t, why, x.got.Write(at, s), x.want.Write(at, s))
			case 11:
				z.put(t, why, someText(r, 1000+r.Intn(50)))
			default:
				z.put(t, why, counted(r.Intn(40), r.Intn(3)))
			}
			x.check(t, why)
			y.check(t, why)
		}
	}
}

// R3

func TestNamesAreNewMemory(t *testing.T) {
	d := disk.New(40)
	s := opened(t, "bytes 0", d, 0, 20, 40)
	for _, b := range []string{"a", "b", "c"} {
		checkPut(t, "put", s, b)
	}
	one, two := s.All(), s.All()
	one[0], one[2] = api.Hash{}, api.Hash{1}
	_ = append(one[:1], api.Hash{2})
	if !slices.Equal(two, namesOf("a", "b", "c")) {
		t.Error("two lists share their memory")
	}
	checkStore(t, "a list changed", s, 16, "a", "b", "c")
	checkPut(t, "put", s, "d")
	_ = append(two, api.Hash{3})
	checkStore(t, "lists changed", s, 15, "a", "b", "c", "d")
}

func TestKeepIsNotKept(t *testing.T) {
	d := disk.New(40)
	s := opened(t, "bytes 0", d, 0, 20, 40)
	for _, b := range []string{"a", "b", "c"} {
		checkPut(t, "put", s, b)
	}
	row := append(namesOf("b", "c"), nameOf("behind"))
	keep := row[:2]
	must(t, s.Sweep(keep))
	if row[2] != nameOf("behind") {
		t.Error("what lies behind keep's length has changed")
	}
	keep[0], keep[1] = api.Hash{}, api.Hash{1}
	checkStore(t, "keep changed", s, 17, "b", "c")
	names := s.All()
	must(t, s.Sweep(names))
	names[0] = api.Hash{}
	checkStore(t, "names changed", s, 17, "b", "c")
}

// Two stores of a disk have nothing in common but the disk; a store keeps what it found, whatever others write.
func TestStoresApart(t *testing.T) {
	d := disk.New(40)
	s, u := opened(t, "bytes 0", d, 0, 10, 20), opened(t, "bytes 0", d, 20, 30, 40)
	checkPut(t, "one", s, "a")
	checkPut(t, "the other", u, "b")
	checkNone(t, "one", s, nameOf("b"))
	checkNone(t, "the other", u, nameOf("a"))
	must(t, s.Sweep(nil))
	checkStore(t, "one", s, 9)
	checkStore(t, "the other", u, 8, "b")
	must(t, journal.Clear(d, 20, 30))
	must(t, journal.Clear(d, 30, 40))
	checkStore(t, "cleared by others", u, 8, "b")
	must(t, u.Sweep(namesOf("b")))
	checkStore(t, "swept", opened(t, "swept", d, 20, 30, 40), 8, "b")
	d.Off(0)
	v := opened(t, "another disk", disk.New(4), 0, 2, 4)
	checkPut(t, "another disk", v, "c")
}

// R5

func TestSameAnswers(t *testing.T) {
	run := func() string {
		r := rand.New(rand.NewSource(5))
		d := disk.New(60)
		s, _ := store.Open(d, 1, 30, 59)
		told := ""
		for range 200 {
			d.Off(r.Intn(40))
			h, e := s.Put(counted(r.Intn(60), r.Intn(2)))
			told += fmt.Sprintln(h, e, s.Room())
			if r.Intn(6) == 0 {
				l := s.All()
				told += fmt.Sprintln(s.Sweep(l[r.Intn(len(l)+1):]))
			}
			if r.Intn(3) == 0 {
				d.Crash([]byte(someText(r, 4)))
				if again, e := store.Open(d, 1, 30, 59); e == api.OK {
					s = again
				}
			}
			told += fmt.Sprintln(s.All())
		}
		return told
	}
	want := run()
	var wait sync.WaitGroup
	for range 8 {
		wait.Go(func() {
			if got := run(); got != want {
				t.Error("the same calls, other answers")
			}
		})
	}
	wait.Wait()
}
