package disk_test

import (
	"fmt"
	"math"
	"math/rand"
	"slices"
	"strings"
	"sync"
	"testing"

	"hanaper/api"
	"hanaper/disk"
)

const (
	sectorBytes = 32
	mostSectors = 4096
)

var empty = strings.Repeat("\x00", sectorBytes)

// filled is a sector of one byte, again and again.
func filled(b byte) string {
	return strings.Repeat(string([]byte{b}), sectorBytes)
}

// counted is a sector whose bytes are all others, and others than those of the next n.
func counted(n int) string {
	b := make([]byte, sectorBytes)
	for i := range b {
		b[i] = byte(37*n + i + 1)
	}
	return string(b)
}

func someText(r *rand.Rand, n int) string {
	b := make([]byte, n)
	r.Read(b)
	return string(b)
}

// noSectors are places that are none on a disk of n sectors, some of them if they were taken modulo a power of 2.
func noSectors(n int) []int {
	return []int{-1, -2, -n, math.MinInt32, math.MinInt, math.MinInt + 1, n, n + 1, 2 * n, mostSectors, mostSectors + 1, 1 << 8 * n, 1 << 16 * n, math.MaxInt32, 1 << 32, 1<<32 + 1, math.MaxInt}
}

// wrongSizes are all lengths near 32, and some that are 32 if a byte or two of them are taken.
func wrongSizes() []int {
	l := []int{256, 256 + sectorBytes, 1000, 1<<16 + sectorBytes}
	for n := range 100 {
		if n != sectorBytes {
			l = append(l, n)
		}
	}
	return l
}

// written is what a Write was of.
type written struct {
	at int
	s  string
}

// plain is a disk by the chapter's words: one row of all that is pending, that is gone through whenever something is asked.
type plain struct {
	safe    []string
	pending []written
	counts  bool // an Off counts
	left    int  // by which so many steps are left
}

func newPlain(n int) *plain {
	return &plain{safe: slices.Repeat([]string{empty}, n)}
}

func (p *plain) isOff() bool {
	return p.counts && p.left <= 0
}

func (p *plain) is(i int) bool {
	for at := range p.safe {
		if at == i {
			return true
		}
	}
	return false
}

func (p *plain) read(i int) (string, api.Errno) {
	switch {
	case p.isOff():
		return "", api.ErrOff
	case !p.is(i):
		return "", api.ErrRange
	}
	s := p.safe[i]
	for _, w := range p.pending {
		if w.at == i {
			s = w.s
		}
	}
	return s, api.OK
}

func (p *plain) write(i int, s string) api.Errno {
	switch {
	case !p.is(i):
		return api.ErrRange
	case len(s) != sectorBytes:
		return api.ErrArg
	case p.isOff():
		return api.ErrOff
	}
	p.pending = append(p.pending, written{i, s})
	p.left--
	return api.OK
}

func (p *plain) sync() api.Errno {
	if p.isOff() {
		return api.ErrOff
	}
	for _, w := range p.pending {
		p.safe[w.at] = w.s
	}
	p.pending = nil
	p.left--
	return api.OK
}

func (p *plain) off(after int) {
	p.counts, p.left = true, after
}

func (p *plain) crash(keep []uint8) {
	k := 0
	for i := range p.safe {
		var l []string
		for _, w := range p.pending {
			if w.at == i {
				l = append(l, w.s)
			}
		}
		if len(l) > 0 {
			p.safe[i] = wantCrashed(p.safe[i], l, wantKept(keep, k))
			k++
		}
	}
	p.pending, p.counts = nil, false
}

func (p *plain) safeOf(i int) string {
	if !p.is(i) {
		return ""
	}
	return p.safe[i]
}

// wantKept goes round keep step by step.
func wantKept(keep []uint8, k int) uint8 {
	if len(keep) == 0 {
		return 0
	}
	for k >= len(keep) {
		k -= len(keep)
	}
	return keep[k]
}

// wantCrashed writes one behind the other, till the bits of b say no more: the upper six tell whole ones, the lower two parts.
func wantCrashed(now string, l []string, b uint8) string {
	whole, bytes := int(b>>2), 8*int(b&3)
	for whole > len(l) {
		whole -= len(l) + 1
	}
	for n, s := range l {
		if n < whole {
			now = s
		}
		if n == whole {
			now = s[:bytes] + now[bytes:]
		}
	}
	return now
}

func checkRead(t *testing.T, why string, d *disk.Disk, i int, want string, wantE api.Errno) {
	t.Helper()
	if got, e := d.Read(i); got != want || e != wantE {
		t.Errorf("%s: Read(%d) = %q, %d, want %q, %d", why, i, got, e, want, wantE)
	}
}

func checkSafe(t *testing.T, why string, d *disk.Disk, i int, want string) {
	t.Helper()
	if got := d.Safe(i); got != want {
		t.Errorf("%s: Safe(%d) = %q, want %q", why, i, got, want)
	}
}

func checkError(t *testing.T, why string, got, want api.Errno) {
	t.Helper()
	if got != want {
		t.Errorf("%s: %d, want %d", why, got, want)
	}
}

// checkSame holds all that can be seen of d against p.
func checkSame(t *testing.T, why string, d *disk.Disk, p *plain) {
	t.Helper()
	if got := d.Sectors(); got != len(p.safe) {
		t.Fatalf("%s: %d sectors, want %d", why, got, len(p.safe))
	}
	for i := -1; i <= len(p.safe); i++ {
		want, wantE := p.read(i)
		if got, e := d.Read(i); got != want || e != wantE {
			t.Fatalf("%s: Read(%d) = %q, %d, want %q, %d", why, i, got, e, want, wantE)
		}
		if got, want := d.Safe(i), p.safeOf(i); got != want {
			t.Fatalf("%s: Safe(%d) = %q, want %q", why, i, got, want)
		}
	}
}

// must is for steps that are no test's own.
func must(t *testing.T, e api.Errno) {
	t.Helper()
	if e != api.OK {
		t.Fatalf("error %d", e)
	}
}

// synced is a disk of n sectors, each counted, all safe.
func synced(t *testing.T, n int) *disk.Disk {
	t.Helper()
	d := disk.New(n)
	for i := range n {
		must(t, d.Write(i, counted(i)))
	}
	must(t, d.Sync())
	return d
}

// P13.1

func TestNewOfEachNumber(t *testing.T) {
	for n := -300; n <= mostSectors+300; n++ {
		d := disk.New(n)
		if may := 1 <= n && n <= 4096; may != (d != nil) {
			t.Fatalf("New(%d): a disk is %v", n, d != nil)
		}
		if d == nil {
			continue
		}
		if got := d.Sectors(); got != n {
			t.Errorf("New(%d) has %d sectors", n, got)
		}
		checkRead(t, "the last sector", d, n-1, empty, api.OK)
		checkRead(t, "behind the last sector", d, n, "", api.ErrRange)
	}
	for _, n := range []int{math.MinInt, math.MinInt + 1, math.MinInt32, math.MinInt32 + 1, -1 << 16, 1 << 13, 1 << 16, 1<<16 + 1, math.MaxInt32, 1 << 32, 1<<32 + 1, 1<<63 - 1} {
		if disk.New(n) != nil {
			t.Errorf("New(%d) is a disk", n)
		}
	}
}

func TestNewIsEmptyAndOn(t *testing.T) {
	for _, n := range []int{1, 2, 3, 2000, 4095, 4096} {
		d := disk.New(n)
		checkSame(t, "a new disk", d, newPlain(n))
		must(t, d.Write(n-1, counted(1)))
		must(t, d.Sync())
		checkSafe(t, "the last sector", d, n-1, counted(1))
		if got := d.Sectors(); got != n {
			t.Errorf("%d sectors of %d behind a Write", got, n)
		}
	}
}

func TestPowerLastsAtFirst(t *testing.T) {
	d := disk.New(2)
	for n := range 20000 {
		must(t, d.Write(n%2, counted(n)))
		if n%3 == 0 {
			must(t, d.Sync())
		}
	}
	checkRead(t, "many steps", d, 1, counted(19999), api.OK)
}

func TestSectorsWhateverComes(t *testing.T) {
	d := disk.New(7)
	for _, act := range []func(){func() { d.Off(0) }, func() { d.Crash([]uint8{4}) }, func() { d.Write(3, empty) }, func() { d.Sync() }, func() { d.Off(1) }, func() { d.Write(7, empty) }} {
		act()
		if got := d.Sectors(); got != 7 {
			t.Errorf("%d sectors", got)
		}
	}
}

// P13.2

func TestWhatIsWrittenIsRead(t *testing.T) {
	const n = 5
	for i := range n {
		d, p := synced(t, n), newPlain(n)
		for at := range n {
			p.safe[at] = counted(at)
		}
		for _, s := range []string{filled('a'), filled(0xff), counted(200), empty, "\x00" + filled('x')[1:], filled('x')[1:] + "\x00"} {
			checkError(t, "Write", d.Write(i, s), p.write(i, s))
			checkSame(t, "one that is written", d, p)
		}
		checkError(t, "Sync", d.Sync(), p.sync())
		checkSame(t, "one that is synced", d, p)
	}
}

func TestEachByteIsKept(t *testing.T) {
	d := disk.New(1)
	for place := range sectorBytes {
		for b := range 256 {
			s := counted(3)[:place] + string([]byte{byte(b)}) + counted(3)[place+1:]
			must(t, d.Write(0, s))
			checkRead(t, "pending", d, 0, s, api.OK)
			must(t, d.Sync())
			checkRead(t, "synced", d, 0, s, api.OK)
			checkSafe(t, "synced", d, 0, s)
		}
	}
}

func TestEachSectorIsItsOwn(t *testing.T) {
	d := disk.New(mostSectors)
	own := func(i int) string { return fmt.Sprintf("%032d", i) }
	for i := range mostSectors {
		must(t, d.Write(i, own(i)))
	}
	for i := range mostSectors {
		checkRead(t, "pending", d, i, own(i), api.OK)
		checkSafe(t, "pending", d, i, empty)
	}
	must(t, d.Sync())
	for i := range mostSectors {
		checkRead(t, "synced", d, i, own(i), api.OK)
		checkSafe(t, "synced", d, i, own(i))
	}
}

func TestSyncMakesSafe(t *testing.T) {
	d := disk.New(3)
	checkError(t, "Sync of nothing", d.Sync(), api.OK)
	must(t, d.Write(1, counted(1)))
	must(t, d.Write(1, counted(2)))
	must(t, d.Write(0, counted(3)))
	checkSafe(t, "not synced", d, 0, empty)
	checkSafe(t, "not synced", d, 1, empty)
	must(t, d.Sync())
	checkSafe(t, "synced", d, 0, counted(3))
	checkSafe(t, "synced", d, 1, counted(2))
	checkSafe(t, "never written", d, 2, empty)
	// Nothing is pending any more: a Sync once more brings back nothing, nor does a crash.
	must(t, d.Write(1, counted(4)))
	must(t, d.Sync())
	must(t, d.Sync())
	checkSafe(t, "synced twice", d, 1, counted(4))
	for b := range 256 {
		d.Crash([]uint8{uint8(b)})
		checkRead(t, "synced, and a crash", d, 0, counted(3), api.OK)
		checkRead(t, "synced, and a crash", d, 1, counted(4), api.OK)
	}
}

// Of several errors it is the one that the call's promise names first.
func TestErrorsInOrder(t *testing.T) {
	const n = 3
	for _, off := range []bool{false, true} {
		d := synced(t, n)
		if off {
			d.Off(0)
		}
		or := func(e api.Errno) api.Errno {
			if off {
				return api.ErrOff
			}
			return e
		}
		for _, i := range noSectors(n) {
			why := fmt.Sprintf("off %v, no sector %d", off, i)
			checkRead(t, why, d, i, "", or(api.ErrRange))
			checkSafe(t, why, d, i, "")
			for _, s := range []string{"", "x", filled('x'), filled('x') + "x"} {
				checkError(t, why, d.Write(i, s), api.ErrRange)
			}
		}
		for i := range n {
			for _, size := range wrongSizes() {
				checkError(t, fmt.Sprintf("off %v, %d bytes", off, size), d.Write(i, strings.Repeat("x", size)), api.ErrArg)
			}
			want := counted(i)
			if off {
				want = ""
			}
			checkRead(t, "a sector", d, i, want, or(api.OK))
			checkSafe(t, "a sector", d, i, counted(i))
			checkError(t, "Write", d.Write(i, filled('y')), or(api.OK))
		}
		checkError(t, "Sync", d.Sync(), or(api.OK))
	}
}

// What is refused is not there, and not pending: a crash that keeps one write of each sector finds none.
func TestErrorsChangeNothing(t *testing.T) {
	d := synced(t, 3)
	refused := func() {
		for _, i := range noSectors(3) {
			d.Write(i, filled('x'))
			d.Write(i, "x")
		}
		for _, size := range wrongSizes() {
			d.Write(1, strings.Repeat("x", size))
		}
	}
	same := func(why string) {
		t.Helper()
		for i := range 3 {
			checkSafe(t, why, d, i, counted(i))
		}
	}
	refused()
	same("refused")
	d.Off(0)
	refused()
	checkError(t, "Write", d.Write(2, filled('x')), api.ErrOff)
	d.Off(9)
	checkRead(t, "refused, as the power was gone", d, 2, counted(2), api.OK)
	d.Crash([]uint8{7})
	same("refused, and a crash")
	refused()
	must(t, d.Sync())
	same("refused, and synced")
	// What is pending stays so, by a Sync that is refused.
	must(t, d.Write(1, filled('y')))
	d.Off(0)
	checkError(t, "Sync", d.Sync(), api.ErrOff)
	same("Sync refused")
	d.Off(9)
	checkRead(t, "Sync refused", d, 1, filled('y'), api.OK)
	d.Crash(nil)
	same("Sync refused, and a crash")
}

func TestSafeAtAnyTime(t *testing.T) {
	d := disk.New(2)
	checkSafe(t, "new", d, 0, empty)
	must(t, d.Write(0, counted(1)))
	checkSafe(t, "pending", d, 0, empty)
	d.Off(0)
	checkSafe(t, "the power gone", d, 0, empty)
	checkSafe(t, "the power gone, no sector", d, 2, "")
	d.Off(1)
	must(t, d.Sync())
	checkError(t, "the power gone", d.Sync(), api.ErrOff)
	checkSafe(t, "synced, the power gone", d, 0, counted(1))
	d.Crash(nil)
	checkSafe(t, "a crash", d, 0, counted(1))
	checkSafe(t, "a crash", d, 1, empty)
}

// P13.3

// checkPower takes steps, Writes and Syncs by turns, till the power goes: behind so many.
func checkPower(t *testing.T, why string, d *disk.Disk, steps int) {
	t.Helper()
	for n := range steps {
		if _, e := d.Read(0); e != api.OK {
			t.Fatalf("%s: ahead of step %d of %d: Read tells %d", why, n, steps, e)
		}
		e := api.OK
		if n%3 == 2 {
			e = d.Sync()
		} else {
			e = d.Write(n%d.Sectors(), counted(n))
		}
		if e != api.OK {
			t.Fatalf("%s: step %d of %d: %d", why, n, steps, e)
		}
	}
	checkIsOff(t, why, d)
}

func checkIsOff(t *testing.T, why string, d *disk.Disk) {
	t.Helper()
	for range 3 {
		checkRead(t, why, d, 0, "", api.ErrOff)
		checkError(t, why+": Write", d.Write(0, filled('x')), api.ErrOff)
		checkError(t, why+": Sync", d.Sync(), api.ErrOff)
	}
}

func TestPowerGoesBehindEachNumber(t *testing.T) {
	for after := range 300 {
		d := disk.New(3)
		d.Off(after)
		checkPower(t, fmt.Sprintf("Off(%d)", after), d, after)
	}
	for _, after := range []int{0, -1, -2, -3, -100, math.MinInt32, math.MinInt, math.MinInt + 1} {
		d := disk.New(3)
		d.Off(after)
		checkPower(t, fmt.Sprintf("Off(%d)", after), d, 0)
	}
	for _, after := range []int{1 << 8, 1 << 16, 1<<16 + 1} {
		d := disk.New(1)
		d.Off(after)
		checkPower(t, fmt.Sprintf("Off(%d)", after), d, after)
	}
	for _, after := range []int{math.MaxInt32, 1 << 32, 1<<32 + 1, 1 << 62, math.MaxInt} {
		d := disk.New(1)
		d.Off(after)
		for n := range 3000 {
			checkError(t, "Write", d.Write(0, counted(n)), api.OK)
			checkError(t, "Sync", d.Sync(), api.OK)
		}
	}
}

// Both are counted: Writes alone, and Syncs alone.
func TestPowerCountsWritesAndSyncs(t *testing.T) {
	for after := range 20 {
		writes, syncs := disk.New(2), disk.New(2)
		writes.Off(after)
		syncs.Off(after)
		for n := range 40 {
			want := api.OK
			if n >= after {
				want = api.ErrOff
			}
			checkError(t, fmt.Sprintf("Write %d behind Off(%d)", n, after), writes.Write(1, counted(n)), want)
			checkError(t, fmt.Sprintf("Sync %d behind Off(%d)", n, after), syncs.Sync(), want)
		}
	}
}

// What is refused, and what is but asked, takes nothing off.
func TestPowerCountsWhatIsOKAlone(t *testing.T) {
	for after := 1; after < 6; after++ {
		d := disk.New(3)
		d.Off(after)
		for range after {
			for range 10 {
				checkError(t, "no sector", d.Write(3, filled('x')), api.ErrRange)
				checkError(t, "no sector", d.Write(-1, filled('x')), api.ErrRange)
				checkError(t, "31 bytes", d.Write(0, filled('x')[1:]), api.ErrArg)
				checkRead(t, "a sector", d, 2, empty, api.OK)
				checkRead(t, "no sector", d, 3, "", api.ErrRange)
				checkSafe(t, "a sector", d, 1, empty)
				checkSafe(t, "no sector", d, 3, "")
				d.Sectors()
			}
			checkError(t, "a step", d.Write(0, counted(1)), api.OK)
		}
		checkIsOff(t, "all steps taken", d)
	}
}

// With the power gone a refused step takes nothing off either: a later Off counts from its own number on.
func TestLaterOffCounts(t *testing.T) {
	for first := -2; first < 6; first++ {
		for taken := range 8 {
			for later := -2; later < 6; later++ {
				d := disk.New(2)
				d.Off(first)
				for n := range taken {
					d.Write(0, counted(n))
				}
				d.Off(later)
				checkPower(t, fmt.Sprintf("Off(%d), %d steps, Off(%d)", first, taken, later), d, max(0, later))
			}
		}
	}
}

func TestOffOfManyCountsTheLast(t *testing.T) {
	d := disk.New(2)
	for _, after := range []int{5, 0, 3, -1, 7, 2} {
		d.Off(after)
	}
	checkPower(t, "the last Off", d, 2)
	d.Off(0)
	checkIsOff(t, "Off(0) with the power gone", d)
	d.Off(math.MinInt)
	checkIsOff(t, "an Off below 0 with the power gone", d)
	d.Off(3)
	checkPower(t, "on again", d, 3)
}

// The power alone goes: what is pending is so yet, if it is on again by a later Off.
func TestPendingStaysWithoutPower(t *testing.T) {
	d := disk.New(2)
	d.Off(2)
	must(t, d.Write(0, counted(1)))
	must(t, d.Write(0, counted(2)))
	checkIsOff(t, "two steps", d)
	d.Off(1)
	checkRead(t, "on again", d, 0, counted(2), api.OK)
	checkSafe(t, "on again", d, 0, empty)
	must(t, d.Sync())
	checkSafe(t, "synced", d, 0, counted(2))
	for b, want := range map[uint8]string{0: empty, 4: counted(1), 8: counted(2)} {
		d := disk.New(2)
		d.Off(2)
		must(t, d.Write(0, counted(1)))
		must(t, d.Write(0, counted(2)))
		checkError(t, "the power gone", d.Write(0, counted(3)), api.ErrOff)
		d.Crash([]uint8{b})
		checkRead(t, fmt.Sprintf("a crash of %d", b), d, 0, want, api.OK)
	}
}

// P13.4

func TestCrashOfNothing(t *testing.T) {
	for _, keep := range [][]uint8{nil, {}, {0}, {4}, {255}, {1, 2, 3}} {
		d := disk.New(2)
		d.Crash(keep)
		checkSame(t, "nothing was written", d, newPlain(2))
	}
	d := disk.New(2)
	must(t, d.Write(1, filled('a')))
	d.Crash(nil)
	checkRead(t, "Write, Crash of nothing", d, 1, empty, api.OK)
}

func TestCrashKnown(t *testing.T) {
	o, a, b, c := filled('o'), filled('a'), filled('b'), filled('c')
	for _, x := range []struct {
		writes []string
		keep   uint8
		want   string
	}{
		{[]string{a}, 0, o},
		{[]string{a}, 1, a[:8] + o[8:]},
		{[]string{a}, 2, a[:16] + o[16:]},
		{[]string{a}, 3, a[:24] + o[24:]},
		{[]string{a}, 4, a},
		{[]string{a}, 5, a},
		{[]string{a}, 7, a},
		{[]string{a}, 8, o},
		{[]string{a}, 9, a[:8] + o[8:]},
		{[]string{a}, 12, a},
		{[]string{a}, 252, a},
		{[]string{a}, 255, a},
		{[]string{a}, 251, a[:24] + o[24:]},
		{[]string{a, b}, 0, o},
		{[]string{a, b}, 3, a[:24] + o[24:]},
		{[]string{a, b}, 4, a},
		{[]string{a, b}, 5, b[:8] + a[8:]},
		{[]string{a, b}, 7, b[:24] + a[24:]},
		{[]string{a, b}, 8, b},
		{[]string{a, b}, 11, b},
		{[]string{a, b}, 12, o},
		{[]string{a, b}, 14, a[:16] + o[16:]},
		{[]string{a, b}, 17, b[:8] + a[8:]},
		{[]string{a, b, c}, 4, a},
		{[]string{a, b, c}, 8, b},
		{[]string{a, b, c}, 10, c[:16] + b[16:]},
		{[]string{a, b, c}, 12, c},
		{[]string{a, b, c}, 15, c},
		{[]string{a, b, c}, 16, o},
		{[]string{a, b, c}, 255, c},
		{[]string{a, a, b}, 8, a},
		{[]string{a, a, b}, 9, b[:8] + a[8:]},
		{[]string{o, a}, 5, a[:8] + o[8:]},
		{[]string{o, a}, 8, a},
	} {
		d := disk.New(3)
		must(t, d.Write(1, o))
		must(t, d.Sync())
		for _, s := range x.writes {
			must(t, d.Write(1, s))
		}
		d.Crash([]uint8{x.keep})
		why := fmt.Sprintf("%d writes, a crash of %d", len(x.writes), x.keep)
		checkRead(t, why, d, 1, x.want, api.OK)
		checkSafe(t, why, d, 1, x.want)
		checkRead(t, why, d, 0, empty, api.OK)
		checkRead(t, why, d, 2, empty, api.OK)
	}
}

// Each byte, of each number of writes up to where it makes no difference any more.
func TestCrashOfEachByte(t *testing.T) {
	for m := range 140 {
		var l []string
		for n := range m {
			l = append(l, counted(n))
		}
		for b := range 256 {
			d := disk.New(2)
			must(t, d.Write(1, filled('o')))
			must(t, d.Sync())
			for _, s := range l {
				must(t, d.Write(1, s))
			}
			d.Crash([]uint8{uint8(b)})
			want := wantCrashed(filled('o'), l, uint8(b))
			if got := d.Safe(1); got != want {
				t.Errorf("%d writes, a crash of %d: %q, want %q", m, b, got, want)
			}
		}
	}
}

// Each sector with pending writes has its byte, by rising sectors, whatever was written first.
func TestCrashGoesByRisingSectors(t *testing.T) {
	r := rand.New(rand.NewSource(1))
	for range 200 {
		d := disk.New(40)
		l := r.Perm(40)[:1+r.Intn(40)]
		for _, i := range l {
			must(t, d.Write(i, counted(i)))
		}
		slices.Sort(l)
		keep := []uint8{0, 4, 1, 4, 0, 0, 2}[:1+r.Intn(7)]
		d.Crash(keep)
		for k, i := range l {
			want := wantCrashed(empty, []string{counted(i)}, wantKept(keep, k))
			checkSafe(t, fmt.Sprintf("sector %d, %d ahead of it, keep %d", i, k, keep), d, i, want)
		}
	}
}

func TestCrashCountsPendingSectorsAlone(t *testing.T) {
	d := synced(t, 6)
	must(t, d.Write(1, filled('a')))
	must(t, d.Sync())
	must(t, d.Write(4, filled('e')))
	must(t, d.Write(2, filled('b')))
	must(t, d.Write(2, filled('c')))
	must(t, d.Write(5, filled('f')))
	d.Crash([]uint8{8, 0, 4})
	for i, want := range []string{counted(0), filled('a'), filled('c'), counted(3), counted(4), filled('f')} {
		checkRead(t, "keep of three", d, i, want, api.OK)
	}
}

func TestCrashGoesRoundKeep(t *testing.T) {
	const n = 700
	for _, size := range []int{1, 2, 3, 7, 256, 257, n - 1, n, n + 1, 2 * n} {
		keep := make([]uint8, size)
		for k := range keep {
			keep[k] = uint8(k*k + k/256)
		}
		d := disk.New(n)
		for i := range n {
			must(t, d.Write(i, counted(i)))
		}
		d.Crash(keep)
		for i := range n {
			checkSafe(t, fmt.Sprintf("keep of %d", size), d, i, wantCrashed(empty, []string{counted(i)}, wantKept(keep, i)))
		}
	}
}

func TestCrashOfAllSectors(t *testing.T) {
	d, p := disk.New(mostSectors), newPlain(mostSectors)
	r := rand.New(rand.NewSource(2))
	for range 3 {
		for _, i := range r.Perm(mostSectors)[:3000] {
			s := someText(r, sectorBytes)
			must(t, d.Write(i, s))
			must(t, p.write(i, s))
		}
	}
	keep := []uint8(someText(r, 1000))
	d.Crash(keep)
	p.crash(keep)
	for i := range mostSectors {
		checkSafe(t, "all sectors", d, i, p.safe[i])
	}
}

// Behind a crash nothing is pending: neither a Sync nor another crash brings back a write.
func TestCrashLosesTheOthers(t *testing.T) {
	for b := range 256 {
		d := synced(t, 2)
		for n := range 5 {
			must(t, d.Write(1, counted(10+n)))
		}
		d.Crash([]uint8{uint8(b)})
		left := d.Safe(1)
		checkRead(t, "a crash", d, 1, left, api.OK)
		must(t, d.Sync())
		checkSafe(t, "a crash, and synced", d, 1, left)
		for c := range 24 {
			d.Crash([]uint8{uint8(c)})
			checkRead(t, "a crash, and another one", d, 1, left, api.OK)
		}
		// The writes behind it are counted anew.
		must(t, d.Write(1, filled('z')))
		d.Crash([]uint8{4})
		checkRead(t, "a crash of one write behind another crash", d, 1, filled('z'), api.OK)
	}
}

func TestCrashTurnsThePowerOn(t *testing.T) {
	for after := -2; after < 10; after++ {
		for taken := range 5 {
			d := disk.New(2)
			d.Off(after)
			for n := range taken {
				d.Write(0, counted(n))
			}
			d.Crash([]uint8{1})
			for n := range 200 {
				checkError(t, "a Write behind a crash", d.Write(1, counted(n)), api.OK)
				checkError(t, "a Sync behind a crash", d.Sync(), api.OK)
			}
			checkRead(t, "a crash", d, 1, counted(199), api.OK)
			d.Off(2)
			checkPower(t, "an Off behind a crash", d, 2)
		}
	}
}

// P13.5

// What was synced stays through crashes, as long as nothing is written there; a sector is torn only if it is written.
func TestSyncedOutlivesCrashes(t *testing.T) {
	const n = 20
	r := rand.New(rand.NewSource(3))
	for range 300 {
		d := synced(t, n)
		for range 1 + r.Intn(4) {
			before := make([]string, n)
			wrote := make([][]string, n)
			for i := range n {
				before[i] = d.Safe(i)
			}
			d.Off(r.Intn(12))
			for range r.Intn(15) {
				i, s := r.Intn(n), someText(r, sectorBytes)
				if d.Write(i, s) == api.OK {
					wrote[i] = append(wrote[i], s)
				}
			}
			d.Crash([]uint8(someText(r, r.Intn(5))))
			for i := range n {
				s, e := d.Read(i)
				checkError(t, "Read behind a crash", e, api.OK)
				if len(wrote[i]) == 0 && s != before[i] {
					t.Errorf("sector %d was not written: %q, before %q", i, s, before[i])
				}
				if !mayBeLeft(s, before[i], wrote[i]) {
					t.Errorf("sector %d: %q of %q and %q", i, s, before[i], wrote[i])
				}
			}
		}
	}
}

// mayBeLeft tells whether s is some write, whole or torn, or what was there ahead of all.
func mayBeLeft(s, before string, writes []string) bool {
	for _, w := range writes {
		for at := 8; at < sectorBytes; at += 8 {
			if s == w[:at]+before[at:] {
				return true
			}
		}
		if s == before {
			return true
		}
		before = w
	}
	return s == before
}

// All calls at random, on a disk and on a plain one; all that can be seen is the same behind each.
func TestRandomActs(t *testing.T) {
	r := rand.New(rand.NewSource(4))
	seen := map[string]int{}
	for range 400 {
		n := 1 + r.Intn(6)
		d, p := disk.New(n), newPlain(n)
		for range 150 {
			why := randomAct(t, r, d, p)
			seen[why]++
			checkSame(t, why, d, p)
		}
	}
	for _, why := range []string{"Write 0", "Write 1", "Write 130", "Write 131", "Sync 0", "Sync 130", "Off", "Crash"} {
		if seen[why] < 1000 {
			t.Errorf("%s came %d times alone", why, seen[why])
		}
	}
}

// randomAct does one thing to both, and tells what.
func randomAct(t *testing.T, r *rand.Rand, d *disk.Disk, p *plain) string {
	t.Helper()
	switch act := r.Intn(20); {
	case act < 13:
		i, s := r.Intn(len(p.safe)), someText(r, sectorBytes)
		if r.Intn(8) == 0 {
			s = s[:r.Intn(sectorBytes)]
		}
		if r.Intn(8) == 0 {
			none := noSectors(len(p.safe))
			i = none[r.Intn(len(none))]
		}
		e := d.Write(i, s)
		checkError(t, "Write", e, p.write(i, s))
		return fmt.Sprint("Write ", int(e))
	case act < 15:
		e := d.Sync()
		checkError(t, "Sync", e, p.sync())
		return fmt.Sprint("Sync ", int(e))
	case act < 18:
		after := r.Intn(14) - 2
		d.Off(after)
		p.off(after)
		return "Off"
	default:
		keep := []uint8(someText(r, r.Intn(5)))
		d.Crash(keep)
		p.crash(keep)
		return "Crash"
	}
}

// R3

func TestKeepStaysAndIsNotKept(t *testing.T) {
	room := []uint8{4, 0, 8, 255, 17}
	kept := slices.Clone(room)
	d := synced(t, 4)
	for i := range 4 {
		must(t, d.Write(i, filled('a')))
		must(t, d.Write(i, filled('b')))
	}
	d.Crash(room[:2])
	if !slices.Equal(room, kept) {
		t.Errorf("keep is %d, was %d", room, kept)
	}
	left := []string{d.Safe(0), d.Safe(1), d.Safe(2), d.Safe(3)}
	if want := []string{filled('a'), counted(1), filled('a'), counted(3)}; !slices.Equal(left, want) {
		t.Errorf("what lies behind keep is looked at: %q", left)
	}
	room[0], room[1] = 99, 99
	for i, want := range left {
		checkSafe(t, "keep is changed", d, i, want)
	}
}

func TestDisksShareNothing(t *testing.T) {
	a, b := disk.New(2), disk.New(2)
	must(t, a.Write(0, counted(1)))
	checkRead(t, "another disk", b, 0, empty, api.OK)
	must(t, a.Sync())
	checkSafe(t, "another disk", b, 0, empty)
	a.Off(0)
	must(t, b.Write(0, counted(2)))
	must(t, b.Sync())
	a.Crash(nil)
	checkRead(t, "one disk", a, 0, counted(1), api.OK)
	checkRead(t, "another disk", b, 0, counted(2), api.OK)
	b.Off(1)
	for range 5 {
		must(t, a.Sync())
	}
	checkPower(t, "another disk", b, 1)
}

func TestTextsStay(t *testing.T) {
	bytes := []byte(counted(1))
	d := disk.New(1)
	must(t, d.Write(0, string(bytes)))
	first, _ := d.Read(0)
	bytes[0]++
	checkRead(t, "the bytes of it are changed", d, 0, counted(1), api.OK)
	must(t, d.Write(0, counted(2)))
	must(t, d.Sync())
	second := d.Safe(0)
	must(t, d.Write(0, counted(3)))
	d.Crash([]uint8{2})
	if first != counted(1) || second != counted(2) {
		t.Errorf("what was told became %q and %q", first, second)
	}
}

// R5

// The same acts on many disks, many at a time: what is left is the same.
func TestAnswersAreTheSame(t *testing.T) {
	const n = 64
	acts := func() string {
		r := rand.New(rand.NewSource(5))
		d := disk.New(n)
		var all strings.Builder
		for range 6 {
			for range 100 {
				d.Write(r.Intn(n), someText(r, sectorBytes))
			}
			if r.Intn(2) == 0 {
				d.Sync()
			}
			d.Crash([]uint8(someText(r, 7)))
			for i := range n {
				all.WriteString(d.Safe(i))
			}
		}
		return all.String()
	}
	want := acts()
	var wait sync.WaitGroup
	for range 8 {
		wait.Go(func() {
			for range 20 {
				if acts() != want {
					t.Error("another answer")
				}
			}
		})
	}
	wait.Wait()
}
