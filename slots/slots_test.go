package slots_test

import (
	"encoding/binary"
	"fmt"
	"hash/crc32"
	"math"
	"math/big"
	"math/rand"
	"slices"
	"strings"
	"sync"
	"testing"

	"hanaper/api"
	"hanaper/disk"
	"hanaper/slots"
)

const (
	sectorBytes = 32
	aheadBytes  = 14 // of a text: its frame's length and sum, and its number
	mostBytes   = 1016
	mostSectors = 100
)

var empty = strings.Repeat("\x00", sectorBytes)

// framed is a frame by Go's library.
func framed(s string) string {
	size := binary.BigEndian.AppendUint16(nil, uint16(len(s)))
	sum := crc32.ChecksumIEEE(append(slices.Clone(size), s...))
	return string(binary.BigEndian.AppendUint32(size, sum)) + s
}

// numbered is what is framed of a number and a text, by Go's library.
func numbered(n uint64, s string) string {
	return string(binary.BigEndian.AppendUint64(nil, n)) + s
}

// cut is s in sectors, the last one filled up by bytes b.
func cut(s string, b byte) []string {
	var l []string
	for ; len(s) > sectorBytes; s = s[sectorBytes:] {
		l = append(l, s[:sectorBytes])
	}
	return append(l, s+strings.Repeat(string([]byte{b}), sectorBytes-len(s)))
}

// stands is a text as a slot has it.
func stands(n uint64, s string) []string {
	return cut(framed(numbered(n, s)), 0)
}

// counted is a text of n bytes, others than those of the next k.
func counted(n, k int) string {
	b := make([]byte, n)
	for i := range b {
		b[i] = byte(37*k + i%251 + 1)
	}
	return string(b)
}

func someText(r *rand.Rand, n int) string {
	b := make([]byte, n)
	r.Read(b)
	return string(b)
}

// must is for steps that are no test's own.
func must(t *testing.T, e api.Errno) {
	t.Helper()
	if e != api.OK {
		t.Fatalf("error %d", e)
	}
}

func checkError(t *testing.T, why string, got, want api.Errno) {
	t.Helper()
	if got != want {
		t.Errorf("%s: %d, want %d", why, got, want)
	}
}

func checkLoad(t *testing.T, why string, d *disk.Disk, from, sectors int, want string, number uint64) {
	t.Helper()
	if s, n, e := slots.Load(d, from, sectors); s != want || n != number || e != api.OK {
		t.Fatalf("%s: Load(%d, %d) = %q, %d, %d, want %q, %d", why, from, sectors, s, n, e, want, number)
	}
}

func checkNoLoad(t *testing.T, why string, d *disk.Disk, from, sectors int, want api.Errno) {
	t.Helper()
	if s, n, e := slots.Load(d, from, sectors); s != "" || n != 0 || e != want {
		t.Fatalf("%s: Load(%d, %d) = %q, %d, %d, want %d alone", why, from, sectors, s, n, e, want)
	}
}

func checkSave(t *testing.T, why string, d *disk.Disk, from, sectors int, s string, want api.Errno) {
	t.Helper()
	if e := slots.Save(d, from, sectors, s); e != want {
		t.Fatalf("%s: Save(%d, %d) of %d bytes = %d, want %d", why, from, sectors, len(s), e, want)
	}
}

// fill makes sectors safe, from one on.
func fill(t *testing.T, d *disk.Disk, at int, l ...string) {
	t.Helper()
	for i, s := range l {
		must(t, d.Write(at+i, s))
	}
	must(t, d.Sync())
}

// crowded is a disk of n sectors that are all others, and no frames.
func crowded(t *testing.T, n int) *disk.Disk {
	t.Helper()
	d := disk.New(n)
	for i := range n {
		fill(t, d, i, counted(sectorBytes, i+5))
	}
	return d
}

// stateOf is all that can be seen of a disk's sectors: what was written last of each, and what is safe.
func stateOf(t *testing.T, d *disk.Disk) []string {
	t.Helper()
	_, e := d.Read(0)
	off := e == api.ErrOff
	if off {
		d.Off(1)
	}
	var l []string
	for i := range d.Sectors() {
		s, e := d.Read(i)
		must(t, e)
		l = append(l, s, d.Safe(i))
	}
	if off {
		d.Off(0)
	}
	return l
}

func checkState(t *testing.T, why string, d *disk.Disk, want []string) {
	t.Helper()
	for i, s := range stateOf(t, d) {
		if s != want[i] {
			t.Fatalf("%s: sector %d (safe: %v) is %q, want %q", why, i/2, i%2 == 1, s, want[i])
		}
	}
}

func checkSame(t *testing.T, why string, got, want *disk.Disk) {
	t.Helper()
	checkState(t, why, got, stateOf(t, want))
	_, e := got.Read(0)
	_, f := want.Read(0)
	if e != f {
		t.Fatalf("%s: the disk tells %d, want %d", why, e, f)
	}
}

// checkPower holds for how many more steps a disk's power is on.
func checkPower(t *testing.T, why string, d *disk.Disk, want int) {
	t.Helper()
	n := 0
	for n <= want && d.Sync() == api.OK {
		n++
	}
	if n != want {
		t.Errorf("%s: the power is on for %d more steps, want %d", why, n, want)
	}
}

// plainRead is the number and the text of a slot by the chapter's words.
func plainRead(s string) (uint64, string, bool) {
	if len(s) < aheadBytes {
		return 0, "", false
	}
	n := int(s[0])*256 + int(s[1])
	if n < 8 || n > mostBytes+8 || len(s) < 6+n || framed(s[6:6+n]) != s[:6+n] {
		return 0, "", false
	}
	return binary.BigEndian.Uint64([]byte(s[6:aheadBytes])), s[aheadBytes : 6+n], true
}

func plainMay(d *disk.Disk, from, sectors int) bool {
	if sectors < 1 || sectors > mostSectors || from < 0 || from > d.Sectors() {
		return false
	}
	return from+sectors+sectors <= d.Sectors()
}

func plainLoad(d *disk.Disk, from, sectors int) (string, uint64, api.Errno) {
	if !plainMay(d, from, sectors) {
		return "", 0, api.ErrArg
	}
	all := ""
	for i := range 2 * sectors {
		s, e := d.Read(from + i)
		if e != api.OK {
			return "", 0, e
		}
		all += s
	}
	n, s, is := plainRead(all[:sectors*sectorBytes])
	m, u, also := plainRead(all[sectors*sectorBytes:])
	switch {
	case !is && !also:
		return "", 0, api.ErrSlot
	case also && (!is || m > n):
		return u, m, api.OK
	}
	return s, n, api.OK
}

func plainSave(d *disk.Disk, from, sectors int, s string) api.Errno {
	if !plainMay(d, from, sectors) {
		return api.ErrArg
	}
	if len(s) > mostBytes || len(s)+aheadBytes > sectors*sectorBytes {
		return api.ErrCap
	}
	_, n, e := plainLoad(d, from, sectors)
	if e == api.ErrOff {
		return e
	}
	at := from
	if n%2 == 0 {
		at += sectors
	}
	for i, sector := range stands(n+1, s) {
		if e := d.Write(at+i, sector); e != api.OK {
			return e
		}
	}
	return d.Sync()
}

// noPlaces are places where no slots are on a disk of n sectors.
func noPlaces(n int) [][2]int {
	return [][2]int{
		{0, 0}, {n / 2, 0}, {n, 0}, {0, -1}, {n, -1}, {0, -n}, {n, -n}, {-1, 1}, {-2, 1}, {-n, 1}, {-1, -1}, {-1, 0}, {n - 1, 1}, {n, 1}, {n + 1, 1}, {n - 3, 2}, {0, n/2 + 1}, {1, n / 2}, {0, n},
		{0, 101}, {0, 102}, {0, 128}, {0, 200}, {0, 256}, {0, 257}, {0, 1 << 16}, {0, 1<<16 + 1}, {0, 1<<31 + 1}, {0, 1<<32 + 1}, {0, 1 << 62}, {0, 1<<62 + 1}, {0, 1 << 63 >> 1}, {0, math.MaxInt},
		{0, math.MinInt}, {0, math.MinInt + 1}, {0, math.MinInt32}, {n, math.MinInt}, {math.MaxInt, 1}, {math.MaxInt - 1, 1}, {math.MaxInt - 199, 100}, {math.MaxInt, math.MaxInt}, {math.MaxInt, math.MinInt},
		{math.MaxInt, 1 << 62}, {1 << 32, 1}, {1 << 16, 1}, {1 << 31, 1}, {math.MaxInt32, 1}, {math.MinInt, 1}, {math.MinInt, 100}, {math.MinInt + 1, 1}, {math.MinInt32, 1}, {math.MinInt, math.MinInt}, {math.MinInt, 1 << 62},
	}
}

// P16.1

func wantSize(sectors int) int {
	n := big.NewInt(int64(sectors))
	n.Mul(n, big.NewInt(32)).Sub(n, big.NewInt(14))
	if n.Sign() < 0 {
		return 0
	}
	if n.Cmp(big.NewInt(1016)) > 0 {
		return 1016
	}
	return int(n.Int64())
}

func TestSizeOfEachNumber(t *testing.T) {
	l := []int{math.MinInt, math.MinInt + 1, math.MinInt32, -1 << 58, -1 << 59, -1<<59 + 1, -1 << 60, math.MaxInt, math.MaxInt - 1, math.MaxInt32, 1 << 31, 1 << 32, 1<<32 + 1, 1 << 57, 1 << 58, 1<<58 + 1, 1 << 59, 1<<59 + 1, 1<<59 + 2, 1<<59 + 40, 1 << 60, 1<<60 + 1, 1 << 61, 1<<62 + 1}
	for n := -500; n <= 5000; n++ {
		l = append(l, n)
	}
	for _, n := range l {
		if got, want := slots.Size(n), wantSize(n); got != want {
			t.Errorf("Size(%d) = %d, want %d", n, got, want)
		}
	}
	for n, want := range map[int]int{-1: 0, 0: 0, 1: 18, 2: 50, 31: 978, 32: 1010, 33: 1016, 34: 1016, 100: 1016, 101: 1016} {
		if got := slots.Size(n); got != want {
			t.Errorf("Size(%d) = %d, want %d", n, got, want)
		}
	}
}

// What Size tells is what there is room for, and no byte more.
func TestSizeIsTheRoom(t *testing.T) {
	for sectors := 1; sectors <= mostSectors; sectors++ {
		d := crowded(t, 2*sectors)
		n := slots.Size(sectors)
		for k := range 3 {
			s := counted(n, k)
			checkSave(t, "room", d, 0, sectors, s, api.OK)
			checkLoad(t, "room", d, 0, sectors, s, uint64(k+1))
			checkSave(t, "no room", d, 0, sectors, s+"x", api.ErrCap)
			checkLoad(t, "no room", d, 0, sectors, s, uint64(k+1))
		}
	}
}

// P16.2

func TestEachPlace(t *testing.T) {
	for n := 1; n < 10; n++ {
		for from := -3; from < n+4; from++ {
			for sectors := -3; sectors < n+4; sectors++ {
				d := disk.New(n)
				was := stateOf(t, d)
				if from >= 0 && sectors > 0 && from+2*sectors <= n {
					checkNoLoad(t, "bytes 0", d, from, sectors, api.ErrSlot)
					checkSave(t, "bytes 0", d, from, sectors, "x", api.OK)
					checkLoad(t, "bytes 0", d, from, sectors, "x", 1)
				} else {
					checkNoLoad(t, "no place", d, from, sectors, api.ErrArg)
					checkSave(t, "no place", d, from, sectors, "x", api.ErrArg)
					checkState(t, "no place", d, was)
				}
			}
		}
	}
}

func TestPlacesAtTheLimits(t *testing.T) {
	d := disk.New(4096)
	for _, x := range [][2]int{{0, 1}, {4094, 1}, {0, 100}, {0, 99}, {3896, 100}, {3898, 99}, {2000, 33}} {
		checkNoLoad(t, "the greatest disk", d, x[0], x[1], api.ErrSlot)
		checkSave(t, "the greatest disk", d, x[0], x[1], "x", api.OK)
		checkLoad(t, "the greatest disk", d, x[0], x[1], "x", 1)
		must(t, d.Write(x[0]+x[1], empty))
	}
	was := stateOf(t, d)
	for _, x := range [][2]int{{4095, 1}, {4096, 1}, {0, 101}, {3897, 100}, {3995, 100}, {3996, 100}, {4000, 100}, {3899, 99}, {0, 2048}, {0, 4096}} {
		checkNoLoad(t, "the greatest disk", d, x[0], x[1], api.ErrArg)
		checkSave(t, "the greatest disk", d, x[0], x[1], "x", api.ErrArg)
	}
	checkState(t, "no place", d, was)
}

func TestNoPlaces(t *testing.T) {
	for _, n := range []int{1, 2, 3, 5, 8, 150, 198} {
		d := crowded(t, n)
		was := stateOf(t, d)
		for _, x := range noPlaces(n) {
			if plainMay(d, x[0], x[1]) {
				continue
			}
			for _, off := range []bool{false, true} {
				if off {
					d.Off(0)
				}
				why := fmt.Sprintf("%d sectors, off: %v", n, off)
				checkNoLoad(t, why, d, x[0], x[1], api.ErrArg)
				checkSave(t, why, d, x[0], x[1], "", api.ErrArg)
				checkSave(t, why, d, x[0], x[1], counted(2000, 1), api.ErrArg)
				d.Off(100)
			}
		}
		checkState(t, "no place", d, was)
	}
}

func TestLoadWithoutPower(t *testing.T) {
	d := disk.New(6)
	checkSave(t, "on", d, 0, 3, "text", api.OK)
	for _, after := range []int{0, -1, math.MinInt} {
		d.Off(after)
		for _, x := range [][2]int{{0, 3}, {0, 1}, {4, 1}, {1, 2}} {
			checkNoLoad(t, "off", d, x[0], x[1], api.ErrOff)
		}
		d.Off(1)
		checkLoad(t, "on again", d, 0, 3, "text", 1)
	}
}

// Load but looks: it writes nothing, and takes no step of the power's.
func TestLoadWritesNothing(t *testing.T) {
	d := crowded(t, 12)
	fill(t, d, 2, stands(7, "saved")...)
	must(t, d.Write(4, stands(8, "pending")[0]))
	was := stateOf(t, d)
	d.Off(3)
	for range 20 {
		checkLoad(t, "slots", d, 2, 2, "pending", 8)
		checkLoad(t, "slots", d, 2, 1, "saved", 7)
		checkNoLoad(t, "no texts", d, 5, 2, api.ErrSlot)
		checkNoLoad(t, "no place", d, 11, 1, api.ErrArg)
	}
	checkState(t, "loaded", d, was)
	checkPower(t, "loaded", d, 3)
}

// What is pending counts: it is what was written last.
func TestLoadOfPending(t *testing.T) {
	d := disk.New(4)
	fill(t, d, 0, stands(1, "old")...)
	must(t, d.Write(2, stands(2, "new")[0]))
	checkLoad(t, "pending", d, 0, 2, "new", 2)
	must(t, d.Write(2, empty))
	checkLoad(t, "written over", d, 0, 2, "old", 1)
	must(t, d.Write(2, stands(3, "newer")[0]))
	d.Crash(nil)
	checkLoad(t, "lost", d, 0, 2, "old", 1)
}

func TestNoTexts(t *testing.T) {
	for sectors := 1; sectors <= mostSectors; sectors++ {
		checkNoLoad(t, "bytes 0", disk.New(2*sectors+1), 1, sectors, api.ErrSlot)
		checkNoLoad(t, "no frames", crowded(t, 2*sectors), 0, sectors, api.ErrSlot)
	}
}

// checkSlots holds what is loaded of some bytes in each slot, with nothing in the other one, and with another text there.
func checkSlots(t *testing.T, why string, sectors int, l []string, number uint64, text string, is bool) {
	t.Helper()
	for i := range 2 {
		d := crowded(t, 2*sectors+2)
		fill(t, d, 1+i*sectors, l...)
		if is {
			checkLoad(t, why, d, 1, sectors, text, number)
		} else {
			checkNoLoad(t, why, d, 1, sectors, api.ErrSlot)
		}
		fill(t, d, 1+(1-i)*sectors, stands(100, "other")...)
		if is && number > 100 {
			checkLoad(t, why+", and the other one", d, 1, sectors, text, number)
		} else {
			checkLoad(t, why+", and the other one", d, 1, sectors, "other", 100)
		}
	}
}

// Each length of a frame: from 8 bytes on it has a number, and a text behind it.
func TestLoadOfEachLength(t *testing.T) {
	for n := range 1025 {
		s := counted(n, n)
		sectors := (6 + n + 31) / 32
		if n < 8 {
			checkSlots(t, "no number", sectors, cut(framed(s), 0), 0, "", false)
			checkSlots(t, "no number, in more sectors", sectors+2, cut(framed(s), 9), 0, "", false)
			continue
		}
		number := binary.BigEndian.Uint64([]byte(s))
		if number <= 100 {
			t.Fatal("a number that is not above the other one's")
		}
		checkSlots(t, "a number", sectors, cut(framed(s), byte(n)), number, s[8:], true)
		if sectors > 1 {
			checkSlots(t, "one sector short", sectors-1, cut(framed(s), 0)[:sectors-1], 0, "", false)
		}
		if n%50 == 0 {
			checkSlots(t, "in more sectors", sectors+3, cut(framed(s), 7), number, s[8:], true)
			checkSlots(t, "in the most sectors", mostSectors, cut(framed(s), 0), number, s[8:], true)
		}
	}
	for _, n := range []int{1025, 1026, 1500, 3000} {
		checkSlots(t, "a frame that is too long", mostSectors, cut(framed(counted(n, 1)), 0), 0, "", false)
	}
}

// A frame is taken from its slot's bytes alone: it neither goes on in the next slot, nor begins within one.
func TestLoadOfFramesElsewhere(t *testing.T) {
	d := crowded(t, 10)
	fill(t, d, 2, stands(5, counted(40, 1))...) // two sectors
	checkLoad(t, "where it stands", d, 2, 2, counted(40, 1), 5)
	checkLoad(t, "in the second slot", d, 0, 2, counted(40, 1), 5)
	checkNoLoad(t, "in both slots", d, 2, 1, api.ErrSlot)
	checkNoLoad(t, "behind the second slot's start", d, 1, 1, api.ErrSlot)
	checkNoLoad(t, "within the first slot", d, 1, 4, api.ErrSlot)
	checkNoLoad(t, "within the second slot", d, 0, 1, api.ErrSlot)
	checkNoLoad(t, "ahead of both", d, 3, 2, api.ErrSlot)
	checkNoLoad(t, "behind both", d, 0, 1, api.ErrSlot)
}

// Of several frames in a slot the first one counts, whatever stands behind it.
func TestLoadOfTheFirstFrame(t *testing.T) {
	for _, behind := range []string{framed(numbered(200, "second")), "\x00", counted(50, 1)} {
		all := framed(numbered(150, "first")) + behind
		checkSlots(t, "two frames", 4, cut(all, 0), 150, "first", true)
	}
	all := append(stands(150, "first"), stands(200, "second")...)
	checkSlots(t, "a frame a sector", 3, all, 150, "first", true)
	checkSlots(t, "no number in the first one", 3, append(cut(framed("1234567"), 0), all...)[:3], 0, "", false)
}

// A slot with a byte that was changed has none.
func TestLoadOfChangedBytes(t *testing.T) {
	whole := framed(numbered(300, counted(30, 4)))
	for place := range whole {
		for _, x := range []byte{1, 2, 64, 128, 255} {
			s := []byte(whole)
			s[place] ^= x
			checkSlots(t, "a byte is changed", 2, cut(string(s), 0), 0, "", false)
		}
	}
}

func TestLoadOfNumbers(t *testing.T) {
	l := []uint64{0, 1, 2, 3, 127, 128, 255, 256, 257, 65535, 65536, 1<<31 - 1, 1 << 31, 1<<32 - 1, 1 << 32, 1<<32 + 1, 1 << 53, 1<<53 + 1, 1<<63 - 1, 1 << 63, 1<<63 + 1, math.MaxUint64 - 1, math.MaxUint64}
	for _, lower := range l {
		for _, upper := range l {
			d := disk.New(4)
			fill(t, d, 0, stands(lower, "lower")...)
			fill(t, d, 2, stands(upper, "upper")...)
			if upper > lower {
				checkLoad(t, "numbers", d, 0, 2, "upper", upper)
			} else {
				checkLoad(t, "numbers", d, 0, 2, "lower", lower)
			}
		}
		for i, empties := range [][]string{{empty, empty}, stands(lower, "")} {
			d := disk.New(4)
			fill(t, d, 2*i, empties...)
			fill(t, d, 2-2*i, stands(lower, "")...)
			checkLoad(t, "an empty text", d, 0, 2, "", lower)
		}
	}
}

// A number 0 with an empty text is one: it is not taken for a slot that has none.
func TestLoadOfNumberZero(t *testing.T) {
	checkSlots(t, "0, and a text", 1, stands(0, "text"), 0, "text", true)
	checkSlots(t, "0, and no text", 1, stands(0, ""), 0, "", true)
	d := disk.New(2)
	fill(t, d, 0, stands(0, "")...)
	fill(t, d, 1, stands(0, "second")...)
	checkLoad(t, "0 twice", d, 0, 1, "", 0)
}

// P16.3

func TestSaveRefuses(t *testing.T) {
	for _, x := range []struct {
		from, sectors, bytes int
		off                  bool
		want                 api.Errno
	}{
		{0, 3, 83, false, api.ErrCap}, {0, 3, 83, true, api.ErrCap}, {0, 3, 1 << 16, true, api.ErrCap}, {0, 3, 256 + 82, false, api.ErrCap}, {0, 3, 1<<16 + 5, false, api.ErrCap},
		{0, 1, 19, false, api.ErrCap}, {0, 1, 18, true, api.ErrOff}, {0, 3, 82, true, api.ErrOff}, {0, 3, 0, true, api.ErrOff}, {0, 1, 0, true, api.ErrOff},
		{-1, 3, 83, false, api.ErrArg}, {-1, 3, 83, true, api.ErrArg}, {0, 0, 1, true, api.ErrArg}, {0, 101, 2000, true, api.ErrArg}, {196, 3, 0, false, api.ErrArg}, {0, 100, 1017, true, api.ErrCap}, {0, 100, 1016, true, api.ErrOff},
		{0, 100, 1017, false, api.ErrCap}, {0, 100, 1018, false, api.ErrCap}, {0, 33, 1017, false, api.ErrCap}, {0, 32, 1011, false, api.ErrCap}, {0, 100, 1030, false, api.ErrCap}, {0, 100, 3186, false, api.ErrCap},
	} {
		d := crowded(t, 201)
		fill(t, d, 0, stands(9, "old")...)
		was := stateOf(t, d)
		if x.off {
			d.Off(0)
		} else {
			d.Off(50)
		}
		why := fmt.Sprintf("off: %v", x.off)
		checkSave(t, why, d, x.from, x.sectors, counted(x.bytes, 1), x.want)
		if !x.off {
			checkPower(t, why, d, 50)
		}
		d.Off(100)
		checkState(t, why, d, was)
	}
}

// wantSaved is a disk's state, with one text more, all of it safe.
func wantSaved(state []string, at int, number uint64, s string) []string {
	want := slices.Clone(state)
	for i, sector := range stands(number, s) {
		want[2*(at+i)], want[2*(at+i)+1] = sector, sector
	}
	return want
}

// Saves take turns, the second slot first; of a slot no more is written than the frame needs, beside the slots nothing.
func TestSavesTakeTurns(t *testing.T) {
	for _, x := range [][2]int{{0, 1}, {3, 1}, {2, 3}, {0, 4}, {7, 2}, {1, 40}} {
		from, sectors := x[0], x[1]
		d := crowded(t, from+2*sectors+3)
		want := stateOf(t, d)
		most := slots.Size(sectors)
		for k, n := range []int{0, most, 1, 0, most, most - 1, most / 2, 3, 5, most / 3, 0, 0} {
			number := uint64(k + 1)
			s := counted(n, k)
			at := []int{from + sectors, from}[k%2]
			want = wantSaved(want, at, number, s)
			why := fmt.Sprintf("slots of %d from %d on, save %d", sectors, from, number)
			checkSave(t, why, d, from, sectors, s, api.OK)
			checkState(t, why, d, want)
			checkLoad(t, why, d, from, sectors, s, number)
		}
	}
}

// Each text of each length takes as many sectors as its frame, and one step more.
func TestSaveOfEachLength(t *testing.T) {
	for n := range mostBytes + 1 {
		d := crowded(t, 70)
		want := wantSaved(stateOf(t, d), 34, 1, counted(n, n))
		d.Off(60)
		checkSave(t, "each length", d, 1, 33, counted(n, n), api.OK)
		checkPower(t, "each length", d, 60-(n+aheadBytes+31)/32-1)
		d.Off(1)
		checkState(t, "each length", d, want)
	}
}

func TestSaveKeepsEachByte(t *testing.T) {
	d := disk.New(2)
	for b := range 256 {
		for place := range 18 {
			s := counted(place, 1) + string([]byte{byte(b)}) + counted(17-place, 2)
			checkSave(t, "each byte", d, 0, 1, s, api.OK)
			checkLoad(t, "each byte", d, 0, 1, s, uint64(18*b+place+1))
		}
	}
	for _, s := range []string{"", "\x00", strings.Repeat("\x00", 18), strings.Repeat("\xff", 18), "ü€\xc0", framed("text")} {
		checkSave(t, "texts", d, 0, 1, s, api.OK)
		if got, _, e := slots.Load(d, 0, 1); got != s || e != api.OK {
			t.Errorf("%q is loaded as %q, %d", s, got, e)
		}
	}
}

// The number is one more than the one that is loaded, and tells the slot, whatever stands where.
func TestSaveBehindNumbers(t *testing.T) {
	const none = 77
	for _, x := range []struct{ lower, upper, want uint64 }{
		{none, none, 1}, {0, none, 1}, {none, 0, 1}, {0, 0, 1}, {1, none, 2}, {none, 1, 2}, {2, 1, 3}, {1, 2, 3}, {2, 3, 4}, {3, 2, 4}, {5, 5, 6}, {4, 4, 5}, {10, 1000, 1001}, {1001, 10, 1002},
		{255, none, 256}, {256, 255, 257}, {none, 1<<32 - 1, 1 << 32}, {1 << 32, 3, 1<<32 + 1}, {1<<63 - 1, 0, 1 << 63}, {1 << 63, 0, 1<<63 + 1}, {0, math.MaxUint64 - 1, math.MaxUint64}, {math.MaxUint64 - 1, 5, math.MaxUint64},
		{0, math.MaxUint64, 0}, {math.MaxUint64, 0, 0}, {math.MaxUint64, none, 0}, {none, math.MaxUint64, 0},
	} {
		d := crowded(t, 8)
		for i, n := range []uint64{x.lower, x.upper} {
			if n != none {
				fill(t, d, 1+3*i, stands(n, "old")...)
			}
		}
		at := 1 + 3*int(x.want%2)
		want := wantSaved(stateOf(t, d), at, x.want, counted(50, 3))
		why := fmt.Sprintf("behind %d and %d", x.lower, x.upper)
		checkSave(t, why, d, 1, 3, counted(50, 3), api.OK)
		checkState(t, why, d, want)
	}
}

// Each step of a Save, by where the power goes: what was written stays written, nothing else is.
func TestSaveStepByStep(t *testing.T) {
	for _, ahead := range []int{0, 1, 2, 5} {
		for _, n := range []int{0, 18, 19, 50, 82, 83, 114} {
			steps := (n+aheadBytes+31)/32 + 1
			for after := range steps + 2 {
				got, want := crowded(t, 12), crowded(t, 12)
				for k := range ahead {
					s := counted(20*k, k)
					checkSave(t, "ahead", got, 2, 4, s, api.OK)
					must(t, plainSave(want, 2, 4, s))
				}
				got.Off(after)
				want.Off(after)
				why := fmt.Sprintf("%d ahead, %d bytes, off behind %d", ahead, n, after)
				e := plainSave(want, 2, 4, counted(n, 9))
				if (e == api.OK) != (after >= steps) {
					t.Fatalf("%s: the plain one tells %d", why, e)
				}
				checkSave(t, why, got, 2, 4, counted(n, 9), e)
				checkSame(t, why, got, want)
				got.Crash([]uint8{1, 6})
				want.Crash([]uint8{1, 6})
				checkSame(t, why+", a crash", got, want)
			}
		}
	}
}

// A Save makes safe whatever is pending; a Save that is cut off leaves it.
func TestSaveSyncsAll(t *testing.T) {
	for after := range 5 {
		d := disk.New(8)
		must(t, d.Write(7, counted(sectorBytes, 1)))
		d.Off(after)
		e := slots.Save(d, 0, 3, counted(30, 1)) // two sectors
		checkError(t, "Save", e, []api.Errno{api.ErrOff, api.ErrOff, api.ErrOff, api.OK, api.OK}[after])
		if is := d.Safe(7) != empty; is != (e == api.OK) {
			t.Errorf("off behind %d: what is pending elsewhere is safe: %v", after, is)
		}
	}
}

// P16.4

// loaded is what is loaded behind a crash: a text and its number, or none.
func loaded(t *testing.T, why string, d *disk.Disk, from, sectors int) (string, uint64, bool) {
	t.Helper()
	s, n, e := slots.Load(d, from, sectors)
	if e != api.OK && e != api.ErrSlot {
		t.Fatalf("%s: Load = %d", why, e)
	}
	return s, n, e == api.OK
}

func TestSavedOutlivesCrashes(t *testing.T) {
	r := rand.New(rand.NewSource(1))
	for _, sectors := range []int{1, 2, 5, 33, 100} {
		d := crowded(t, 2*sectors+2)
		for k := range 60 {
			s := someText(r, r.Intn(slots.Size(sectors)+1))
			checkSave(t, "saved", d, 1, sectors, s, api.OK)
			for range k % 4 {
				d.Off(r.Intn(3))
				d.Write(0, counted(sectorBytes, k))
				d.Crash([]byte(someText(r, r.Intn(5))))
				checkLoad(t, "a crash", d, 1, sectors, s, uint64(k+1))
			}
		}
	}
}

// Wherever the power goes in a Save, the text ahead of it is loaded then, or the new one.
func TestCrashInSave(t *testing.T) {
	const sectors = 5
	r := rand.New(rand.NewSource(2))
	for ahead := range 5 {
		for _, n := range []int{0, 18, 19, 60, 146} {
			steps := (n+aheadBytes+31)/32 + 1
			old, next := 0, 0
			for after := range steps + 1 {
				for k := range 300 {
					how := []uint8{uint8(k)}
					if k >= 256 {
						how = []uint8(someText(r, 1+r.Intn(6)))
					}
					d := crowded(t, 2*sectors)
					for i := range ahead {
						checkSave(t, "ahead", d, 0, sectors, counted(146-40*i%147, i), api.OK)
					}
					last, number, was := loaded(t, "ahead", d, 0, sectors)
					d.Off(after)
					e := slots.Save(d, 0, sectors, counted(n, 9))
					d.Crash(how)
					why := fmt.Sprintf("%d ahead, %d bytes, off behind %d, keep %v", ahead, n, after, how)
					switch s, m, is := loaded(t, why, d, 0, sectors); {
					case is && s == counted(n, 9) && m == number+1:
						next++
					case e != api.OK && is == was && s == last && m == number:
						old++
					default:
						t.Fatalf("%s: error %d, %q, %d, %v", why, e, s, m, is)
					}
					checkSave(t, why+", and on", d, 0, sectors, "on", api.OK)
					if s, m, is := loaded(t, why, d, 0, sectors); s != "on" || m == 0 || !is {
						t.Fatalf("%s: %q, %d, %v", why, s, m, is)
					}
				}
			}
			if old == 0 || next == 0 {
				t.Errorf("%d ahead, %d bytes: the old one %d times, the new one %d times", ahead, n, old, next)
			}
		}
	}
}

// A slot's text stays while the other one is saved, again and again, and cut off each time.
func TestManyCutSaves(t *testing.T) {
	r := rand.New(rand.NewSource(3))
	for round := range 300 {
		sectors := 1 + r.Intn(6)
		from := r.Intn(3)
		d := crowded(t, from+2*sectors)
		sure, number, is := "", uint64(0), false
		for step := range 40 {
			s := someText(r, r.Intn(slots.Size(sectors)+1))
			d.Off(r.Intn(9))
			e := slots.Save(d, from, sectors, s)
			if e == api.OK {
				sure, number, is = s, number+1, true
				if r.Intn(2) == 0 {
					d.Off(1)
					checkLoad(t, "saved", d, from, sectors, sure, number)
					continue
				}
			}
			d.Crash([]byte(someText(r, r.Intn(6))))
			why := fmt.Sprintf("round %d, step %d", round, step)
			switch got, n, has := loaded(t, why, d, from, sectors); {
			case has == is && got == sure && n == number:
			case e == api.ErrOff && has && got == s && n == number+1:
				sure, number, is = s, n, true
			default:
				t.Fatalf("%s: error %d: %q, %d, %v, sure is %q, %d, %v", why, e, got, n, has, sure, number, is)
			}
		}
	}
}

// All calls at random, on two pairs of slots of a disk, against the chapter's words on another disk.
func TestAgainstPlain(t *testing.T) {
	r := rand.New(rand.NewSource(4))
	seen := map[api.Errno]int{}
	for round := range 400 {
		sizes := []int{1 + r.Intn(4), 1 + r.Intn(4)}
		froms := []int{r.Intn(3), 3 + 2*sizes[0]}
		n := froms[1] + 2*sizes[1] + r.Intn(2)
		got, want := crowded(t, n), crowded(t, n)
		for step := range 60 {
			i := r.Intn(2)
			from, sectors := froms[i], sizes[i]
			if r.Intn(10) == 0 {
				from, sectors = r.Intn(n+4)-2, r.Intn(8)-1
			}
			switch r.Intn(10) {
			case 0, 1:
				after := r.Intn(8) - 1
				got.Off(after)
				want.Off(after)
			case 2, 3:
				keep := []byte(someText(r, r.Intn(6)))
				got.Crash(keep)
				want.Crash(keep)
			case 4:
				at, s := r.Intn(n), stands(uint64(r.Intn(9)), someText(r, r.Intn(18)))[0]
				checkError(t, "Write", got.Write(at, s), want.Write(at, s))
			default:
				s := someText(r, r.Intn(max(32*sectors, 1)))
				e := plainSave(want, from, sectors, s)
				seen[e]++
				checkSave(t, fmt.Sprintf("round %d, step %d", round, step), got, from, sectors, s, e)
			}
			s, m, e := slots.Load(got, from, sectors)
			u, k, f := plainLoad(want, from, sectors)
			seen[f]++
			if s != u || m != k || e != f {
				t.Fatalf("round %d, step %d: Load(%d, %d) = %q, %d, %d, want %q, %d, %d", round, step, from, sectors, s, m, e, u, k, f)
			}
			checkSame(t, fmt.Sprintf("round %d, step %d", round, step), got, want)
		}
	}
	for _, e := range []api.Errno{api.OK, api.ErrArg, api.ErrCap, api.ErrOff, api.ErrSlot} {
		if seen[e] < 100 {
			t.Errorf("the answer %d came %d times alone", e, seen[e])
		}
	}
}

// R3

func TestTextsStay(t *testing.T) {
	d := disk.New(4)
	bytes := []byte("first")
	checkSave(t, "saved", d, 0, 2, string(bytes), api.OK)
	bytes[0] = 'x'
	first, _, _ := slots.Load(d, 0, 2)
	for _, s := range []string{"second", "third", "fourth"} {
		checkSave(t, "saved", d, 0, 2, s, api.OK)
	}
	fill(t, d, 0, empty, empty, empty, empty)
	if first != "first" {
		t.Errorf("what was loaded became %q", first)
	}
}

// R5

// What is loaded hangs on the disk alone: the same acts on many disks, many at a time, come to the same.
func TestAnswersAreTheSame(t *testing.T) {
	acts := func() string {
		r := rand.New(rand.NewSource(5))
		d := disk.New(40)
		var all strings.Builder
		for range 200 {
			d.Off(r.Intn(20))
			from, sectors := r.Intn(20), 1+r.Intn(10)
			e := slots.Save(d, from, sectors, someText(r, r.Intn(400)))
			d.Crash([]byte(someText(r, 3)))
			s, n, f := slots.Load(d, from, sectors)
			fmt.Fprint(&all, e, s, n, f, ";")
		}
		return all.String()
	}
	want := acts()
	var wait sync.WaitGroup
	for range 8 {
		wait.Go(func() {
			for range 10 {
				if acts() != want {
					t.Error("another answer")
				}
			}
		})
	}
	wait.Wait()
}
