package journal_test

import (
	"encoding/binary"
	"fmt"
	"hash/crc32"
	"math"
	"math/rand"
	"slices"
	"strings"
	"sync"
	"testing"

	"hanaper/api"
	"hanaper/disk"
	"hanaper/journal"
)

const (
	sectorBytes = 32
	headBytes   = 6
	mostFramed  = 1024
)

var empty = strings.Repeat("\x00", sectorBytes)

// framed is a frame by Go's library.
func framed(s string) string {
	size := binary.BigEndian.AppendUint16(nil, uint16(len(s)))
	sum := crc32.ChecksumIEEE(append(slices.Clone(size), s...))
	return string(binary.BigEndian.AppendUint32(size, sum)) + s
}

// filled is s and as many bytes b as whole sectors need.
func filled(s string, b byte) string {
	for len(s)%sectorBytes != 0 {
		s += string([]byte{b})
	}
	return s
}

// cut is s in sectors.
func cut(s string) []string {
	var l []string
	for ; s != ""; s = s[sectorBytes:] {
		l = append(l, s[:sectorBytes])
	}
	return l
}

// stands is a text's frame as a journal has it.
func stands(s string) []string {
	return cut(filled(framed(s), 0))
}

// counted is a text of n bytes, others than those of the next k.
func counted(n, k int) string {
	b := make([]byte, n)
	for i := range b {
		b[i] = byte(37*k + i%251 + 1)
	}
	return string(b)
}

func someText(r *rand.Rand, n int) string {
	b := make([]byte, n)
	r.Read(b)
	return string(b)
}

// must is for steps that are no test's own.
func must(t *testing.T, e api.Errno) {
	t.Helper()
	if e != api.OK {
		t.Fatalf("error %d", e)
	}
}

func checkError(t *testing.T, why string, got, want api.Errno) {
	t.Helper()
	if got != want {
		t.Errorf("%s: %d, want %d", why, got, want)
	}
}

// opened holds what Open finds against what is wanted.
func opened(t *testing.T, why string, d *disk.Disk, from, to int, want ...string) *journal.Journal {
	t.Helper()
	j, l, e := journal.Open(d, from, to)
	if j == nil || e != api.OK || !slices.Equal(l, want) {
		t.Fatalf("%s: Open(%d, %d) = %v, %q, %d, want %q", why, from, to, j != nil, l, e, want)
	}
	return j
}

func checkPlace(t *testing.T, why string, j *journal.Journal, used, room int) {
	t.Helper()
	if j.Used() != used || j.Room() != room {
		t.Errorf("%s: %d sectors used, room for %d, want %d and %d", why, j.Used(), j.Room(), used, room)
	}
}

// diskOf is a disk with these sectors, all safe.
func diskOf(t *testing.T, sectors ...string) *disk.Disk {
	t.Helper()
	d := disk.New(len(sectors))
	for i, s := range sectors {
		must(t, d.Write(i, s))
	}
	must(t, d.Sync())
	return d
}

// numbered is a disk of n sectors that are all others, and no frames.
func numbered(t *testing.T, n int) *disk.Disk {
	t.Helper()
	var l []string
	for i := range n {
		l = append(l, counted(sectorBytes, i+5))
	}
	return diskOf(t, l...)
}

// stateOf is all that can be seen of a disk's sectors: what was written last of each, and what is safe.
func stateOf(t *testing.T, d *disk.Disk) []string {
	t.Helper()
	_, e := d.Read(0)
	off := e == api.ErrOff
	if off {
		d.Off(1)
	}
	var l []string
	for i := range d.Sectors() {
		s, e := d.Read(i)
		must(t, e)
		l = append(l, s, d.Safe(i))
	}
	if off {
		d.Off(0)
	}
	return l
}

func checkSame(t *testing.T, why string, got, want *disk.Disk) {
	t.Helper()
	a, b := stateOf(t, got), stateOf(t, want)
	for i := range b {
		if a[i] != b[i] {
			t.Fatalf("%s: sector %d (safe: %v) is %q, want %q", why, i/2, i%2 == 1, a[i], b[i])
		}
	}
	_, e := got.Read(0)
	_, f := want.Read(0)
	if e != f {
		t.Fatalf("%s: the disk tells %d, want %d", why, e, f)
	}
}

// checkUntouched holds a disk's sectors against what stood there.
func checkUntouched(t *testing.T, why string, d *disk.Disk, was []string) {
	t.Helper()
	if !slices.Equal(stateOf(t, d), was) {
		t.Errorf("%s: the disk has changed", why)
	}
}

// plain is a journal by the chapter's words, on a disk of its own.
type plain struct {
	d              *disk.Disk
	from, to, next int
}

func plainOpen(d *disk.Disk, from, to int) (*plain, []string, api.Errno) {
	if from < 0 || from >= to || to > d.Sectors() {
		return nil, nil, api.ErrArg
	}
	all := ""
	for i := from; i < to; i++ {
		s, e := d.Read(i)
		if e != api.OK {
			return nil, nil, e
		}
		all += s
	}
	p := &plain{d, from, to, from}
	var l []string
	for {
		s := all[(p.next-from)*sectorBytes:]
		if len(s) < headBytes {
			return p, l, api.OK
		}
		n := int(s[0])*256 + int(s[1])
		if n > mostFramed || len(s) < headBytes+n || framed(s[headBytes:headBytes+n]) != s[:headBytes+n] {
			return p, l, api.OK
		}
		l = append(l, s[headBytes:headBytes+n])
		p.next += len(stands(s[headBytes : headBytes+n]))
	}
}

func (p *plain) append(s string) api.Errno {
	if len(s) > mostFramed {
		return api.ErrCap
	}
	l := stands(s)
	if len(l) > p.to-p.next {
		return api.ErrFull
	}
	if behind := p.next + len(l); behind < p.to {
		if p.d.Write(behind, empty) != api.OK || p.d.Sync() != api.OK {
			return api.ErrOff
		}
	}
	for i, sector := range l {
		if p.d.Write(p.next+i, sector) != api.OK {
			return api.ErrOff
		}
	}
	if p.d.Sync() != api.OK {
		return api.ErrOff
	}
	p.next += len(l)
	return api.OK
}

func plainClear(d *disk.Disk, from, to int) api.Errno {
	if from < 0 || from >= to || to > d.Sectors() {
		return api.ErrArg
	}
	if d.Write(from, empty) != api.OK || d.Sync() != api.OK {
		return api.ErrOff
	}
	return api.OK
}

// noAreas are areas that are none on a disk of n sectors.
func noAreas(n int) [][2]int {
	l := [][2]int{
		{-1, n}, {-1, -1}, {-1, 0}, {-n, 1}, {-n, n}, {-2, -1}, {0, 0}, {0, -1}, {0, n + 1}, {n, n}, {n, n + 1}, {n + 1, n + 2}, {n - 1, n - 1}, {n - 1, n + 1}, {n, 0}, {n, n - 1},
		{0, 2 * n}, {0, 1 << 8 * n}, {0, 1<<16 + 1}, {0, 1<<32 + 1}, {1 << 32, 1<<32 + 1}, {0, math.MaxInt}, {math.MaxInt, math.MaxInt}, {math.MaxInt - 1, math.MaxInt}, {math.MaxInt, math.MinInt},
		{math.MaxInt, 0}, {math.MaxInt, 1}, {math.MinInt, math.MaxInt}, {math.MinInt, 0}, {math.MinInt, 1}, {math.MinInt, n}, {math.MinInt, math.MinInt + 1}, {0, math.MinInt}, {0, math.MinInt + 1}, {math.MinInt32, n},
	}
	return l
}

func checkRefused(t *testing.T, why string, d *disk.Disk, from, to int, want api.Errno) {
	t.Helper()
	if j, l, e := journal.Open(d, from, to); j != nil || len(l) != 0 || e != want {
		t.Errorf("%s: Open(%d, %d) = %v, %q, %d, want %d alone", why, from, to, j != nil, l, e, want)
	}
}

// P14.1

func TestOpenOfEachArea(t *testing.T) {
	for n := 1; n < 8; n++ {
		d := disk.New(n)
		for from := -3; from < n+3; from++ {
			for to := -3; to < n+3; to++ {
				if 0 <= from && from < to && to <= n {
					j := opened(t, "bytes 0", d, from, to)
					checkPlace(t, "bytes 0", j, 0, to-from)
				} else {
					checkRefused(t, "no area", d, from, to, api.ErrArg)
				}
			}
		}
		for _, x := range noAreas(n) {
			checkRefused(t, "no area", d, x[0], x[1], api.ErrArg)
		}
	}
	d := disk.New(4096)
	for _, x := range [][2]int{{0, 4096}, {4095, 4096}, {0, 1}, {1, 4095}} {
		checkPlace(t, "the greatest disk", opened(t, "the greatest disk", d, x[0], x[1]), 0, x[1]-x[0])
	}
	for _, x := range noAreas(4096) {
		checkRefused(t, "the greatest disk", d, x[0], x[1], api.ErrArg)
	}
}

func TestOpenWithoutPower(t *testing.T) {
	d := diskOf(t, append(stands("a"), empty)...)
	d.Off(0)
	checkRefused(t, "off", d, 0, 2, api.ErrOff)
	checkRefused(t, "off", d, 1, 2, api.ErrOff)
	for _, x := range noAreas(2) {
		checkRefused(t, "no area, and off", d, x[0], x[1], api.ErrArg)
	}
	d.Off(1)
	opened(t, "on again", d, 0, 2, "a")
}

// Open but looks: it writes nothing, and takes no step of the power's.
func TestOpenWritesNothing(t *testing.T) {
	d := numbered(t, 8)
	for i, s := range stands(counted(50, 1)) {
		must(t, d.Write(2+i, s))
	}
	was := stateOf(t, d)
	d.Off(1)
	for range 20 {
		opened(t, "an area", d, 0, 8)
		opened(t, "an area", d, 2, 8, counted(50, 1))
		checkRefused(t, "no area", d, 8, 9, api.ErrArg)
	}
	checkUntouched(t, "opened", d, was)
	must(t, d.Sync())
	checkRefused(t, "off", d, 2, 8, api.ErrOff)
}

// What is pending is found: it is what was written last.
func TestOpenFindsWhatWasWrittenLast(t *testing.T) {
	d := diskOf(t, append(stands("old"), empty)...)
	must(t, d.Write(0, stands("new")[0]))
	opened(t, "pending", d, 0, 2, "new")
	d.Crash(nil)
	opened(t, "lost", d, 0, 2, "old")
}

// Each frame of each size is found, in order, wherever the area begins.
func TestOpenFindsFrames(t *testing.T) {
	sizes := [][]int{{0}, {1}, {25}, {26}, {27}, {57}, {58}, {59}, {0, 0, 0}, {26, 26}, {27, 26, 27}, {58, 59, 0, 90, 91}, {1024}, {1018}, {1017, 1019}, {1023, 1024, 1022}, {250, 255, 256, 257}, {511, 512, 513}}
	for _, l := range sizes {
		for _, behind := range []int{0, 1, 2, 40} {
			for _, from := range []int{0, 1, 7} {
				all := slices.Repeat([]string{counted(sectorBytes, 3)}, from)
				var want []string
				for k, n := range l {
					want = append(want, counted(n, k))
					all = append(all, stands(want[k])...)
				}
				used := len(all) - from
				all = append(all, slices.Repeat([]string{empty}, behind)...)
				d := diskOf(t, append(all, stands("not of it")...)...)
				j := opened(t, fmt.Sprint(l), d, from, from+used+behind, want...)
				checkPlace(t, fmt.Sprint(l), j, used, behind)
			}
		}
	}
}

func TestOpenOfEachSize(t *testing.T) {
	for n := range mostFramed + 1 {
		s := counted(n, n)
		all := append(append(stands(s), stands("more")...), empty)
		d := diskOf(t, all...)
		j := opened(t, fmt.Sprint(n, " bytes"), d, 0, len(all), s, "more")
		checkPlace(t, fmt.Sprint(n, " bytes"), j, len(all)-1, 1)
		if want := (n + 6 + 31) / 32; len(all) != want+2 {
			t.Fatalf("%d bytes stand in %d sectors, want %d", n, len(all)-2, want)
		}
	}
}

// Where a frame is filled up by other bytes than 0 it is found, too, and so is the next one.
func TestOpenLooksNotAtWhatFillsUp(t *testing.T) {
	for _, n := range []int{0, 1, 25, 26, 27, 60, 1000} {
		s := counted(n, 1)
		all := append(cut(filled(framed(s), 0xff)), stands("next")...)
		all = append(all, counted(sectorBytes, 3))
		j := opened(t, "filled up by 255", diskOf(t, all...), 0, len(all), s, "next")
		checkPlace(t, "filled up by 255", j, len(all)-1, 1)
	}
}

// A frame that stands just behind another one, in its sector, is none of the area's.
func TestOpenLooksAtWholeSectors(t *testing.T) {
	two := cut(filled(framed("ab")+framed("cd"), 0))
	j := opened(t, "two in a sector", diskOf(t, append(two, stands("ef")...)...), 0, 2, "ab", "ef")
	checkPlace(t, "two in a sector", j, 2, 0)
	late := cut(filled("\x00"+framed("ab"), 0))
	opened(t, "a frame from the second byte on", diskOf(t, late...), 0, len(late))
	long := cut(filled(framed(counted(40, 1))+framed("cd"), 0))
	j = opened(t, "a frame in another one's last sector", diskOf(t, append(long, empty)...), 0, 3, counted(40, 1))
	checkPlace(t, "a frame in another one's last sector", j, 2, 1)
}

// wrongFrames are sectors by which First tells an error, whatever stands behind.
func wrongFrames() map[string][]string {
	turned := []byte(framed("abc"))
	turned[7] ^= 1
	sum := []byte(framed("abc"))
	sum[3] ^= 0x80
	size := []byte(framed("abc"))
	size[1] = 4
	return map[string][]string{
		"bytes 0":       {empty},
		"bytes 255":     {strings.Repeat("\xff", sectorBytes)},
		"a byte turned": cut(filled(string(turned), 0)),
		"the sum":       cut(filled(string(sum), 0)),
		"the length":    cut(filled(string(size), 0)),
		"1025 bytes":    cut(filled(framed(counted(1025, 1)), 0)),
		"a sector gone": stands(counted(90, 1))[1:],
		"the last gone": append(stands(counted(90, 1))[:2], empty),
	}
}

// Behind an error nothing is looked for: the next frame stands there.
func TestOpenEndsByAnError(t *testing.T) {
	for why, wrong := range wrongFrames() {
		all := slices.Concat(stands("one"), stands(counted(30, 2)), wrong, stands("lost"), stands("lost too"))
		d := diskOf(t, all...)
		j := opened(t, why, d, 0, len(all), "one", counted(30, 2))
		checkPlace(t, why, j, 3, len(all)-3)
		checkPlace(t, why, opened(t, why, d, 3, len(all)), 0, len(all)-3)
		must(t, j.Append("two"))
		opened(t, why, d, 0, len(all), "one", counted(30, 2), "two")
	}
}

// A frame ends in its area, or is none, though the disk goes on as it does.
func TestOpenEndsByTheAreasEnd(t *testing.T) {
	for _, n := range []int{27, 58, 59, 500, 1024} {
		s := counted(n, 1)
		all := append(stands("a"), stands(s)...)
		d := diskOf(t, append(all, stands("b")...)...)
		for to := 1; to < len(all); to++ {
			j := opened(t, "cut", d, 0, to, "a")
			checkPlace(t, "cut", j, 1, to-1)
		}
		opened(t, "whole", d, 0, len(all), "a", s)
		opened(t, "one more", d, 0, len(all)+1, "a", s, "b")
		opened(t, "its own area", d, 1, len(all), s)
		opened(t, "from its second sector on", d, 2, len(all))
	}
}

func TestOpenOfManyFrames(t *testing.T) {
	const n = 4096
	var all, want []string
	for k := range n {
		want = append(want, counted(k%27, k))
		all = append(all, stands(want[k])...)
	}
	d := diskOf(t, all...)
	checkPlace(t, "4096 frames", opened(t, "4096 frames", d, 0, n, want...), n, 0)
	checkPlace(t, "from 1000 on", opened(t, "from 1000 on", d, 1000, n-1, want[1000:n-1]...), n-1001, 0)
}

// Bytes at random, with frames among them, against a plain reader.
func TestOpenOfSomeBytes(t *testing.T) {
	r := rand.New(rand.NewSource(1))
	for round := range 3000 {
		var all []string
		for len(all) < 12 {
			switch r.Intn(6) {
			case 0:
				all = append(all, someText(r, sectorBytes))
			case 1:
				b := []byte(framed(someText(r, r.Intn(80))))
				b[r.Intn(len(b))] ^= 1 << r.Intn(8)
				all = append(all, cut(filled(string(b), 0))...)
			default:
				all = append(all, cut(filled(framed(someText(r, r.Intn(80))), byte(r.Intn(256))))...)
			}
		}
		d := diskOf(t, all...)
		from := r.Intn(3)
		to := len(all) - r.Intn(3)
		p, want, e := plainOpen(d, from, to)
		must(t, e)
		why := fmt.Sprint("round ", round)
		checkPlace(t, why, opened(t, why, d, from, to, want...), p.next-from, to-p.next)
	}
}

// P14.2

func TestAppendOfEachSize(t *testing.T) {
	d := disk.New(40)
	for n := range mostFramed + 1 {
		must(t, journal.Clear(d, 2, 39))
		j := opened(t, "cleared", d, 2, 39)
		s := counted(n, n)
		checkError(t, fmt.Sprint(n, " bytes"), j.Append(s), api.OK)
		l := stands(s)
		checkPlace(t, fmt.Sprint(n, " bytes"), j, len(l), 37-len(l))
		for i, want := range append(l, empty) {
			if got := d.Safe(2 + i); got != want {
				t.Fatalf("%d bytes: sector %d is %q, want %q", n, i, got, want)
			}
		}
		opened(t, "again", d, 2, 39, s)
	}
	for n := mostFramed + 1; n < mostFramed+300; n++ {
		j := opened(t, "again", d, 2, 39, counted(mostFramed, mostFramed))
		checkError(t, fmt.Sprint(n, " bytes"), j.Append(counted(n, 1)), api.ErrCap)
	}
}

// A frame has as many sectors as there are at most, whatever stands ahead of it.
func TestAppendOfEachRoom(t *testing.T) {
	for ahead := range 3 {
		for room := range 36 {
			if ahead+room == 0 {
				continue
			}
			for sectors := 1; sectors <= 33; sectors++ {
				for _, n := range []int{max(0, 32*sectors-37), min(mostFramed, 32*sectors-6)} {
					d := numbered(t, ahead+room+2)
					must(t, journal.Clear(d, 1, ahead+room+1))
					j := opened(t, "cleared", d, 1, ahead+room+1)
					for k := range ahead {
						must(t, j.Append(counted(26, k)))
					}
					was := stateOf(t, d)
					e := j.Append(counted(n, 9))
					why := fmt.Sprintf("%d bytes, room for %d", n, room)
					if sectors <= room {
						checkError(t, why, e, api.OK)
						checkPlace(t, why, j, ahead+sectors, room-sectors)
					} else {
						checkError(t, why, e, api.ErrFull)
						checkPlace(t, why, j, ahead, room)
						checkUntouched(t, why, d, was)
					}
					if d.Safe(0) != was[1] || d.Safe(ahead+room+1) != was[len(was)-1] {
						t.Errorf("%s: what stands beside the area has changed", why)
					}
				}
			}
		}
	}
}

func TestAppendTillFull(t *testing.T) {
	d := numbered(t, 300)
	must(t, journal.Clear(d, 10, 290))
	j := opened(t, "cleared", d, 10, 290)
	var want []string
	used := 0
	for k := 0; ; k++ {
		s := counted(k*k%200, k)
		e := j.Append(s)
		if len(stands(s)) > 280-used {
			checkError(t, "full", e, api.ErrFull)
			break
		}
		checkError(t, "not full", e, api.OK)
		want = append(want, s)
		used += len(stands(s))
		checkPlace(t, "not full", j, used, 280-used)
	}
	for j.Room() > 0 {
		must(t, j.Append("x"))
		want = append(want, "x")
	}
	checkError(t, "full", j.Append(""), api.ErrFull)
	checkPlace(t, "full", opened(t, "full", d, 10, 290, want...), 280, 0)
	for _, i := range []int{0, 9, 290, 299} {
		if d.Safe(i) != counted(sectorBytes, i+5) {
			t.Errorf("sector %d, beside the area, has changed", i)
		}
	}
}

// Which error comes first: of a text too long, too little room, and no power.
func TestAppendErrorsInOrder(t *testing.T) {
	for _, off := range []bool{false, true} {
		for _, room := range []int{0, 1, 2, 33, 40} {
			for _, n := range []int{0, 26, 27, 58, 59, 1024, 1025, 5000} {
				d := disk.New(room + 1)
				j := opened(t, "bytes 0", d, 0, room+1)
				must(t, j.Append("first"))
				want := api.OK
				switch {
				case n > mostFramed:
					want = api.ErrCap
				case (n+37)/32 > room:
					want = api.ErrFull
				case off:
					want = api.ErrOff
				}
				if off {
					d.Off(0)
				}
				checkError(t, fmt.Sprintf("off %v, room for %d, %d bytes", off, room, n), j.Append(counted(n, 1)), want)
				if want != api.OK {
					checkPlace(t, "an error", j, 1, room)
				}
			}
		}
	}
}

// What is refused for itself writes nothing, and takes no step of the power's.
func TestAppendRefusedWritesNothing(t *testing.T) {
	d := numbered(t, 6)
	j := opened(t, "an area", d, 1, 5)
	must(t, d.Write(0, empty))
	was := stateOf(t, d)
	d.Off(1)
	for range 10 {
		checkError(t, "too long", j.Append(counted(1025, 1)), api.ErrCap)
		checkError(t, "no room", j.Append(counted(123, 1)), api.ErrFull)
	}
	checkUntouched(t, "refused", d, was)
	must(t, d.Sync())
	checkError(t, "off", j.Append("x"), api.ErrOff)
}

// Each step that an Append takes is seen where the power goes behind it: the sector behind is written and synced ahead of all else, then the frame's own ones by order, and once more a Sync.
func TestAppendStepByStep(t *testing.T) {
	for _, room := range []int{0, 1, 2, 30} {
		for _, n := range []int{0, 26, 27, 100, 1024} {
			s := counted(n, 2)
			l := stands(s)
			steps := len(l) + 1
			if room > 0 {
				steps += 2
			}
			for after := range steps + 3 {
				got, want := numbered(t, len(l)+room+3), numbered(t, len(l)+room+3)
				j := opened(t, "an area", got, 1, len(l)+room+2)
				p, _, _ := plainOpen(want, 1, len(l)+room+2)
				must(t, j.Append("a"))
				must(t, p.append("a"))
				// Somebody else's, that a Sync makes safe, too.
				must(t, got.Write(0, empty))
				must(t, want.Write(0, empty))
				got.Off(after)
				want.Off(after)
				e := p.append(s)
				why := fmt.Sprintf("%d sectors, room for %d more, off behind %d", len(l), room, after)
				if (e == api.OK) != (after >= steps) {
					t.Fatalf("%s: %d", why, e)
				}
				checkError(t, why, j.Append(s), e)
				checkSame(t, why, got, want)
				checkPlace(t, why, j, p.next-1, p.to-p.next)
			}
		}
	}
}

// The sectors that are written, told by hand.
func TestAppendKnown(t *testing.T) {
	a := stands(counted(40, 1))
	x := counted(sectorBytes, 9)
	for after, want := range [][2][]string{
		// each: what was written last, what is safe
		{{x, x, x, x}, {x, x, x, x}},
		{{x, x, empty, x}, {x, x, x, x}},
		{{x, x, empty, x}, {x, x, empty, x}},
		{{a[0], x, empty, x}, {x, x, empty, x}},
		{{a[0], a[1], empty, x}, {x, x, empty, x}},
		{{a[0], a[1], empty, x}, {a[0], a[1], empty, x}},
	} {
		d := diskOf(t, x, x, x, x)
		j := opened(t, "no frames", d, 0, 4)
		d.Off(after)
		wantE := api.ErrOff
		if after == 5 {
			wantE = api.OK
		}
		checkError(t, fmt.Sprint("off behind ", after), j.Append(counted(40, 1)), wantE)
		d.Off(1)
		for i := range 4 {
			got, _ := d.Read(i)
			if got != want[0][i] || d.Safe(i) != want[1][i] {
				t.Errorf("off behind %d: sector %d is %q, %q of it safe, want %q and %q", after, i, got, d.Safe(i), want[0][i], want[1][i])
			}
		}
	}
}

// Behind an error the journal is what it was: the next frame comes where this one was to stand.
func TestAppendGoesOnBehindAnError(t *testing.T) {
	for after := range 6 {
		d := disk.New(9)
		j := opened(t, "bytes 0", d, 0, 9)
		must(t, j.Append("a"))
		d.Off(after)
		for range 3 {
			checkError(t, "off", j.Append(counted(100, 1)), api.ErrOff)
			checkPlace(t, "off", j, 1, 8)
		}
		d.Off(4)
		checkError(t, "on again", j.Append("b"), api.OK)
		checkPlace(t, "on again", j, 2, 7)
		d.Off(9)
		opened(t, "on again", d, 0, 9, "a", "b")
		d.Crash(nil)
		checkError(t, "a crash", j.Append("c"), api.OK)
		opened(t, "a crash", d, 0, 9, "a", "b", "c")
	}
}

// Old frames behind a new one are not found, however their sectors fall.
func TestAppendHidesOldFrames(t *testing.T) {
	for first := range 200 {
		d := disk.New(30)
		j := opened(t, "bytes 0", d, 0, 30)
		for j.Room() > 0 {
			must(t, j.Append(fmt.Sprint("old ", j.Room())))
		}
		must(t, journal.Clear(d, 0, 30))
		j = opened(t, "cleared", d, 0, 30)
		s := counted(first, 1)
		must(t, j.Append(s))
		opened(t, "one", d, 0, 30, s)
		must(t, j.Append("two"))
		opened(t, "two", d, 0, 30, s, "two")
		must(t, j.Append(s))
		d.Crash(nil)
		opened(t, "three, and a crash", d, 0, 30, s, "two", s)
	}
}

// P14.3

func TestRoomAndUsed(t *testing.T) {
	d := disk.New(50)
	j := opened(t, "bytes 0", d, 3, 47)
	used := 0
	for _, n := range []int{0, 26, 27, 58, 59, 1025, 300, 2000, 2, 1024} {
		why := fmt.Sprint(n, " bytes")
		checkPlace(t, why, j, used, 44-used)
		if j.Append(counted(n, 1)) == api.OK {
			used += (n + 37) / 32
		}
		checkPlace(t, why, j, used, 44-used)
	}
	if used != 1+1+2+2+3+10+1 {
		t.Errorf("%d sectors used", used)
	}
	d.Off(0)
	checkPlace(t, "off", j, used, 44-used)
	checkError(t, "off", j.Append("x"), api.ErrOff)
	checkPlace(t, "off", j, used, 44-used)
	d.Crash(nil)
	checkPlace(t, "a crash", j, used, 44-used)
}

func TestClearOfEachArea(t *testing.T) {
	for n := 1; n < 7; n++ {
		for from := -3; from < n+3; from++ {
			for to := -3; to < n+3; to++ {
				d := numbered(t, n)
				was := stateOf(t, d)
				e := journal.Clear(d, from, to)
				if 0 <= from && from < to && to <= n {
					checkError(t, "an area", e, api.OK)
					was[2*from], was[2*from+1] = empty, empty
				} else {
					checkError(t, fmt.Sprintf("no area, %d to %d of %d", from, to, n), e, api.ErrArg)
				}
				checkUntouched(t, fmt.Sprintf("Clear(%d, %d) of %d", from, to, n), d, was)
			}
		}
		d := numbered(t, n)
		was := stateOf(t, d)
		for _, off := range []int{9, 0} {
			d.Off(off)
			for _, x := range noAreas(n) {
				checkError(t, fmt.Sprintf("no area, %d to %d of %d", x[0], x[1], n), journal.Clear(d, x[0], x[1]), api.ErrArg)
			}
		}
		checkUntouched(t, "no area", d, was)
	}
}

func TestClearStepByStep(t *testing.T) {
	x := counted(sectorBytes, 1)
	for after, want := range [][3]any{{x, x, api.ErrOff}, {empty, x, api.ErrOff}, {empty, empty, api.OK}, {empty, empty, api.OK}} {
		d := diskOf(t, x, x, x)
		d.Off(after)
		why := fmt.Sprint("off behind ", after)
		checkError(t, why, journal.Clear(d, 1, 3), want[2].(api.Errno))
		l := stateOf(t, d)
		if l[2] != want[0] || l[3] != want[1] || l[0] != x || l[1] != x || l[4] != x || l[5] != x {
			t.Errorf("%s: %q", why, l)
		}
		if _, e := d.Read(0); (e == api.OK) != (after == 3) {
			t.Errorf("%s: Read tells %d", why, e)
		}
	}
}

func TestClearLeavesNoFrame(t *testing.T) {
	d := disk.New(20)
	for _, l := range [][]string{{"a"}, {"a", "b", "c"}, {counted(300, 1), "b"}, {counted(634, 1)}, nil} {
		j, _, e := journal.Open(d, 0, 20)
		must(t, e)
		for _, s := range l {
			must(t, j.Append(s))
		}
		opened(t, "appended", d, 0, 20, l...)
		used := j.Used()
		must(t, journal.Clear(d, 0, 20))
		checkPlace(t, "cleared", opened(t, "cleared", d, 0, 20), 0, 20)
		checkPlace(t, "the journal that was opened ahead of it", j, used, 20-used)
	}
}

// A Clear that the power goes under leaves all frames, or none, if the sector isn't torn; if it is, too.
func TestClearTorn(t *testing.T) {
	l := []string{counted(26, 1), counted(70, 2)}
	for after := range 3 {
		for keep := range 256 {
			d := disk.New(6)
			j := opened(t, "bytes 0", d, 0, 6)
			for _, s := range l {
				must(t, j.Append(s))
			}
			d.Off(after)
			e := journal.Clear(d, 0, 6)
			d.Crash([]uint8{byte(keep)})
			_, found, f := journal.Open(d, 0, 6)
			must(t, f)
			if len(found) != 0 && (e == api.OK || !slices.Equal(found, l)) {
				t.Fatalf("off behind %d, keep %d: %q", after, keep, found)
			}
		}
	}
}

// P14.4

// checkCrash appends s behind some frames, while the power goes, and holds what is found behind the crash against what may be.
func checkCrash(t *testing.T, begun func() (*disk.Disk, *journal.Journal, int), ahead []string, s string, after int, keep []uint8) bool {
	t.Helper()
	d, j, to := begun()
	d.Off(after)
	e := j.Append(s)
	d.Crash(keep)
	k, found, f := journal.Open(d, 0, to)
	why := fmt.Sprintf("%d bytes, off behind %d, keep %v", len(s), after, keep)
	must(t, f)
	whole := slices.Equal(found, append(slices.Clone(ahead), s))
	if !whole && (e == api.OK || !slices.Equal(found, ahead)) {
		t.Fatalf("%s: error %d, %q is found", why, e, found)
	}
	// What goes on goes on behind what was found.
	if k.Room() > 1 {
		must(t, k.Append("more"))
		opened(t, why, d, 0, to, append(found, "more")...)
	}
	return whole
}

func TestCrashAnywhere(t *testing.T) {
	ahead := []string{"first", counted(60, 1), counted(26, 2)}
	fresh := func() (*disk.Disk, *journal.Journal, int) {
		d := disk.New(14)
		j, _, _ := journal.Open(d, 0, 14)
		for _, s := range ahead {
			j.Append(s)
		}
		return d, j, 14
	}
	used := func() (*disk.Disk, *journal.Journal, int) {
		d := disk.New(14)
		j, _, _ := journal.Open(d, 0, 14)
		for j.Append(fmt.Sprint("old ", j.Room())) == api.OK {
		}
		journal.Clear(d, 0, 14)
		j, _, _ = journal.Open(d, 0, 14)
		for _, s := range ahead {
			j.Append(s)
		}
		j, _, _ = journal.Open(d, 0, 14)
		return d, j, 14
	}
	r := rand.New(rand.NewSource(2))
	for _, begun := range []func() (*disk.Disk, *journal.Journal, int){fresh, used} {
		for _, n := range []int{0, 5, 26, 27, 90, 250, 282} {
			s := counted(n, 7)
			steps := len(stands(s)) + 3
			if n == 282 {
				steps -= 2 // no sector is behind it
			}
			found, lost := 0, 0
			for after := range steps {
				for keep := range 256 {
					if checkCrash(t, begun, ahead, s, after, []uint8{byte(keep)}) {
						found++
					} else {
						lost++
					}
				}
				for range 50 {
					checkCrash(t, begun, ahead, s, after, []byte(someText(r, r.Intn(20))))
				}
			}
			if found == 0 || lost == 0 {
				t.Errorf("%d bytes: found %d times, lost %d times", n, found, lost)
			}
			for keep := range 256 {
				if !checkCrash(t, begun, ahead, s, steps, []uint8{byte(keep)}) {
					t.Errorf("%d bytes, appended with OK, are not found", n)
				}
			}
		}
	}
}

// Of two that were under way at one place the first one may come whole by what both have alike.
func TestCrashBringsAnEarlierOne(t *testing.T) {
	alike := counted(sectorBytes, 4)
	first, second := counted(26, 1)+alike, counted(26, 2)+alike
	d := disk.New(5)
	j := opened(t, "bytes 0", d, 0, 5)
	must(t, j.Append("sure"))
	d.Off(4)
	checkError(t, "the first one", j.Append(first), api.ErrOff)
	d.Crash([]uint8{4, 0})
	j = opened(t, "the first one's first sector", d, 0, 5, "sure")
	d.Off(4)
	checkError(t, "the second one", j.Append(second), api.ErrOff)
	d.Crash([]uint8{0, 4})
	j = opened(t, "the second one's second sector", d, 0, 5, "sure", first)
	checkPlace(t, "the first one", j, 3, 2)
	must(t, j.Append("next"))
	opened(t, "the next one", d, 0, 5, "sure", first, "next")
}

// An opened journal goes on as the one that was there would have.
func TestOpenedGoesOn(t *testing.T) {
	r := rand.New(rand.NewSource(3))
	for round := range 300 {
		n := 1 + r.Intn(40)
		one, two := disk.New(n), disk.New(n)
		j, k := opened(t, "bytes 0", one, 0, n), opened(t, "bytes 0", two, 0, n)
		var all []string
		for range 12 {
			why := fmt.Sprint("round ", round)
			s := someText(r, r.Intn(150))
			e := j.Append(s)
			if e == api.OK {
				all = append(all, s)
			}
			checkError(t, why, k.Append(s), e)
			checkSame(t, why, two, one)
			if r.Intn(2) == 0 {
				two.Crash([]byte(someText(r, 3)))
			}
			k = opened(t, why, two, 0, n, all...)
			checkPlace(t, why, k, j.Used(), j.Room())
		}
	}
}

// history is a journal whose disk loses its power again and again, with all that may be found in it.
type history struct {
	t     *testing.T
	r     *rand.Rand
	d     *disk.Disk
	j     *journal.Journal
	to    int
	sure  []string
	maybe map[int][]string // what was under way, by the sector it was to stand in first
}

func (h *history) append() {
	s := someText(h.r, h.r.Intn(140))
	if h.r.Intn(3) == 0 {
		h.d.Off(h.r.Intn(9))
	}
	at := h.j.Used()
	switch e := h.j.Append(s); e {
	case api.OK:
		h.sure = append(h.sure, s)
	case api.ErrOff:
		h.maybe[at] = append(h.maybe[at], s)
		h.crash()
	case api.ErrFull:
		h.d.Off(1000)
		must(h.t, journal.Clear(h.d, 0, h.to))
		h.sure, h.maybe = nil, map[int][]string{}
		h.j = opened(h.t, "cleared", h.d, 0, h.to)
	}
	h.d.Off(1000)
}

func (h *history) crash() {
	h.d.Crash([]byte(someText(h.r, h.r.Intn(9))))
	j, found, e := journal.Open(h.d, 0, h.to)
	must(h.t, e)
	n := len(h.sure)
	if len(found) < n || len(found) > n+1 || !slices.Equal(found[:n], h.sure) {
		h.t.Fatalf("%q is found, %q is sure", found, h.sure)
	}
	if len(found) > n && !slices.Contains(h.maybe[h.j.Used()], found[n]) {
		h.t.Fatalf("%q is found, and was not under way there", found[n])
	}
	h.sure, h.j = found, j
}

func TestManyCrashes(t *testing.T) {
	r := rand.New(rand.NewSource(4))
	for range 60 {
		n := 5 + r.Intn(60)
		h := &history{t: t, r: r, d: disk.New(n), to: n, maybe: map[int][]string{}}
		h.j = opened(t, "bytes 0", h.d, 0, n)
		for range 150 {
			h.append()
			if r.Intn(10) == 0 {
				h.crash()
			}
		}
	}
}

// All calls at random, on two areas of a disk, against the chapter's words on another disk.
func TestAgainstPlain(t *testing.T) {
	r := rand.New(rand.NewSource(5))
	for round := range 400 {
		n := 2 + r.Intn(30)
		got, want := disk.New(n), disk.New(n)
		areas := [2][2]int{{0, 1 + r.Intn(n-1)}, {}}
		areas[1] = [2]int{areas[0][1], n}
		var js [2]*journal.Journal
		var ps [2]*plain
		for i, x := range areas {
			js[i] = opened(t, "bytes 0", got, x[0], x[1])
			ps[i], _, _ = plainOpen(want, x[0], x[1])
		}
		for step := range 60 {
			i := r.Intn(2)
			from, to := areas[i][0], areas[i][1]
			why := fmt.Sprintf("round %d, step %d", round, step)
			switch r.Intn(12) {
			case 0:
				after := r.Intn(12) - 1
				got.Off(after)
				want.Off(after)
			case 1, 2:
				keep := []byte(someText(r, r.Intn(6)))
				got.Crash(keep)
				want.Crash(keep)
			case 3:
				checkError(t, why, journal.Clear(got, from, to), plainClear(want, from, to))
			case 4, 5:
				j, l, e := journal.Open(got, from, to)
				p, wantL, wantE := plainOpen(want, from, to)
				checkError(t, why, e, wantE)
				if !slices.Equal(l, wantL) || (j == nil) != (p == nil) {
					t.Fatalf("%s: %q, want %q", why, l, wantL)
				}
				if e == api.OK {
					js[i], ps[i] = j, p
				}
			case 6:
				at, s := r.Intn(n), filled(framed(someText(r, r.Intn(27))), 0)
				checkError(t, why, got.Write(at, s), want.Write(at, s))
			default:
				s := someText(r, r.Intn(120))
				if r.Intn(20) == 0 {
					s = someText(r, 1000+r.Intn(100))
				}
				checkError(t, why, js[i].Append(s), ps[i].append(s))
			}
			for k := range js {
				checkPlace(t, why, js[k], ps[k].next-ps[k].from, ps[k].to-ps[k].next)
			}
			checkSame(t, why, got, want)
		}
	}
}

// R3

func TestListIsNewMemory(t *testing.T) {
	d := disk.New(6)
	j := opened(t, "bytes 0", d, 0, 6)
	must(t, j.Append("a"))
	must(t, j.Append("b"))
	_, one, _ := journal.Open(d, 0, 6)
	j, two, _ := journal.Open(d, 0, 6)
	one[0], one[1] = "x", "y"
	_ = append(one, "z")
	if !slices.Equal(two, []string{"a", "b"}) {
		t.Errorf("%q: two lists share their memory", two)
	}
	two[1] = "x"
	_ = append(two[:1], "y")
	must(t, j.Append("c"))
	opened(t, "changed lists", d, 0, 6, "a", "b", "c")
}

// A journal keeps its disk, not what stood there: what others write counts where it is opened anew alone.
func TestJournalKeepsItsDisk(t *testing.T) {
	d := disk.New(4)
	j := opened(t, "bytes 0", d, 0, 4)
	k := opened(t, "bytes 0", d, 0, 4)
	must(t, j.Append("a"))
	checkPlace(t, "the other one", k, 0, 4)
	must(t, k.Append("b"))
	must(t, j.Append("c"))
	checkPlace(t, "both", j, 2, 2)
	checkPlace(t, "both", k, 1, 3)
	opened(t, "both", d, 0, 4, "b", "c")
	must(t, journal.Clear(d, 0, 4))
	checkPlace(t, "cleared", j, 2, 2)
	must(t, j.Append("d"))
	opened(t, "cleared", d, 0, 4)
	opened(t, "cleared", d, 1, 4, "c", "d")
}

// Two disks have nothing in common.
func TestDisksApart(t *testing.T) {
	one, two := disk.New(3), disk.New(3)
	j, k := opened(t, "bytes 0", one, 0, 3), opened(t, "bytes 0", two, 0, 3)
	must(t, j.Append("a"))
	one.Off(0)
	must(t, k.Append("b"))
	opened(t, "the other one", two, 0, 3, "b")
	checkPlace(t, "the first one", j, 1, 2)
}

// R5

func TestSameAnswers(t *testing.T) {
	run := func() string {
		r := rand.New(rand.NewSource(6))
		d := disk.New(60)
		j, _, _ := journal.Open(d, 5, 55)
		told := ""
		for range 200 {
			d.Off(r.Intn(20))
			e := j.Append(someText(r, r.Intn(200)))
			told += fmt.Sprintln(e, j.Room(), j.Used())
			if r.Intn(3) == 0 {
				d.Crash([]byte(someText(r, 4)))
			}
			if r.Intn(20) == 0 {
				told += fmt.Sprintln(journal.Clear(d, 5, 55))
			}
			if k, l, e := journal.Open(d, 5, 55); e == api.OK {
				j = k
				told += fmt.Sprintf("%q", l)
			}
		}
		return told
	}
	want := run()
	var wait sync.WaitGroup
	for range 8 {
		wait.Go(func() {
			if got := run(); got != want {
				t.Error("the same calls, other answers")
			}
		})
	}
	wait.Wait()
}
