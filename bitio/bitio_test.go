package bitio_test

import (
	"math"
	"math/big"
	"math/rand"
	"slices"
	"strings"
	"sync"
	"testing"

	"hanaper/api"
	"hanaper/bitio"
)

const widest = 24 // bits of a piece

func someText(r *rand.Rand, n int) string {
	b := make([]byte, n)
	r.Read(b)
	return string(b)
}

// somePieces are n pieces that may be, with many of no bit and of all bits among them.
func somePieces(r *rand.Rand, n int) []bitio.Piece {
	l := make([]bitio.Piece, n)
	for i := range l {
		width := r.Intn(widest + 1)
		whole := uint32(1)<<width - 1
		l[i] = bitio.Piece{N: r.Uint32() & whole, Width: width}
		switch r.Intn(6) {
		case 0:
			l[i].N = whole
		case 1:
			l[i].N = 0
		case 2:
			l[i] = bitio.Piece{}
		}
	}
	return l
}

// wrongPieces may not be.
func wrongPieces() []bitio.Piece {
	l := []bitio.Piece{{N: math.MaxUint32, Width: 0}, {N: math.MaxUint32, Width: 23}, {N: math.MaxUint32, Width: widest}}
	for width := range widest + 1 {
		l = append(l, bitio.Piece{N: 1 << width, Width: width}, bitio.Piece{N: 1<<width + 1, Width: width}, bitio.Piece{N: 1 << 31, Width: width})
	}
	for _, width := range wrongWidths() {
		for _, n := range []uint32{0, 1, 2, 1 << 24, math.MaxUint32} {
			l = append(l, bitio.Piece{N: n, Width: width})
		}
	}
	return l
}

func wrongWidths() []int {
	return []int{-1, -2, -8, -24, -25, -32, -64, math.MinInt32, math.MinInt, math.MinInt + 1, 25, 26, 31, 32, 33, 63, 64, 65, 256, 280, math.MaxInt32, 1 << 32, 1<<32 + 1, math.MaxInt}
}

// wantPack sums the pieces as one great number, whose lowest byte is the first one.
func wantPack(l []bitio.Piece) (string, int) {
	sum, size := new(big.Int), 0
	for _, p := range l {
		n := big.NewInt(int64(p.N))
		sum.Add(sum, n.Lsh(n, uint(size)))
		size += p.Width
	}
	made := sum.FillBytes(make([]byte, (size+7)/8))
	slices.Reverse(made)
	return string(made), size
}

func checkPack(t *testing.T, l []bitio.Piece) {
	t.Helper()
	want, size := wantPack(l)
	if got, e := bitio.Pack(l); got != want || e != api.OK {
		t.Fatalf("Pack(%v) = %x, %d, want %x", l, got, e, want)
	}
	if got := bitio.Size(l); got != size {
		t.Fatalf("Size(%v) = %d, want %d", l, got, size)
	}
}

func checkRefused(t *testing.T, l []bitio.Piece) {
	t.Helper()
	if got, e := bitio.Pack(l); got != "" || e != api.ErrArg {
		t.Errorf("Pack(%v) = %x, %d", l, got, e)
	}
}

// P6.1

func TestPackKnown(t *testing.T) {
	for _, c := range []struct {
		l    []bitio.Piece
		want string
		size int
	}{
		{nil, "", 0},
		{[]bitio.Piece{}, "", 0},
		{[]bitio.Piece{{}}, "", 0},
		{[]bitio.Piece{{}, {}, {}}, "", 0},
		{[]bitio.Piece{{0, 1}}, "\x00", 1},
		{[]bitio.Piece{{1, 1}}, "\x01", 1},
		{[]bitio.Piece{{1, 1}, {2, 3}}, "\x05", 4},
		{[]bitio.Piece{{0, 7}, {1, 1}}, "\x80", 8},
		{[]bitio.Piece{{0, 8}}, "\x00", 8},
		{[]bitio.Piece{{255, 8}}, "\xff", 8},
		{[]bitio.Piece{{0, 9}}, "\x00\x00", 9},
		{[]bitio.Piece{{256, 9}}, "\x00\x01", 9},
		{[]bitio.Piece{{255, 8}, {0, 1}}, "\xff\x00", 9},
		{[]bitio.Piece{{0xabc, 12}, {0xd, 4}}, "\xbc\xda", 16},
		{[]bitio.Piece{{0x123456, 24}}, "\x56\x34\x12", 24},
		{[]bitio.Piece{{1, 1}, {0x123456, 24}}, "\xad\x68\x24\x00", 25},
		{[]bitio.Piece{{1, 1}, {}, {0, 2}, {}, {3, 2}}, "\x19", 5},
		{[]bitio.Piece{{1<<24 - 1, 24}, {0, 24}, {1<<24 - 1, 24}}, "\xff\xff\xff\x00\x00\x00\xff\xff\xff", 72},
	} {
		if got, e := bitio.Pack(c.l); got != c.want || e != api.OK {
			t.Errorf("Pack(%v) = %x, %d, want %x", c.l, got, e, c.want)
		}
		if got := bitio.Size(c.l); got != c.size {
			t.Errorf("Size(%v) = %d, want %d", c.l, got, c.size)
		}
	}
}

func TestPackOfSinglePieces(t *testing.T) {
	for width := range widest + 1 {
		end := uint32(1) << width
		for n := uint32(0); n < min(end, 1<<10); n++ {
			checkPack(t, []bitio.Piece{{N: n, Width: width}})
			checkPack(t, []bitio.Piece{{N: end - 1 - n, Width: width}})
		}
		for bit := range width {
			checkPack(t, []bitio.Piece{{N: 1 << bit, Width: width}})
		}
	}
}

func TestPackOfTwoPieces(t *testing.T) {
	for a := range widest + 1 {
		for b := range widest + 1 {
			checkPack(t, []bitio.Piece{{N: 1<<a - 1, Width: a}, {N: 0, Width: b}})
			checkPack(t, []bitio.Piece{{N: 0, Width: a}, {N: 1<<b - 1, Width: b}})
			checkPack(t, []bitio.Piece{{N: 1 << a >> 1, Width: a}, {N: 1 << b >> 1, Width: b}})
		}
	}
}

func TestPackOfManyPieces(t *testing.T) {
	r := rand.New(rand.NewSource(1))
	for n := range 400 {
		checkPack(t, somePieces(r, n))
	}
	checkPack(t, somePieces(r, 5000))
	checkPack(t, slices.Repeat([]bitio.Piece{{N: 1, Width: 1}}, 4001))
}

// A piece that may not be is found wherever it stands, also where it would be no bit.
func TestPackOfPiecesThatMayNotBe(t *testing.T) {
	r := rand.New(rand.NewSource(2))
	for _, p := range wrongPieces() {
		checkRefused(t, []bitio.Piece{p})
		checkRefused(t, []bitio.Piece{p, p})
		l := somePieces(r, 9)
		for i := range len(l) + 1 {
			checkRefused(t, slices.Insert(slices.Clone(l), i, p))
		}
	}
}

func TestSizeOfPiecesThatMayNotBe(t *testing.T) {
	r := rand.New(rand.NewSource(3))
	var all []bitio.Piece
	size := 0
	for _, p := range wrongPieces() {
		if got := bitio.Size([]bitio.Piece{p}); got != 0 {
			t.Errorf("Size of %v alone: %d", p, got)
		}
		l := somePieces(r, 3)
		all = append(append(all, p), l...)
		_, n := wantPack(l)
		size += n
		if got := bitio.Size(all); got != size {
			t.Errorf("Size up to %v: %d, want %d", p, got, size)
		}
	}
}

// P6.2

// wantBits is the bits of s as digits, the first one ahead.
func wantBits(s string) string {
	var made strings.Builder
	for _, b := range []byte(s) {
		for range 8 {
			made.WriteByte('0' + b%2)
			b /= 2
		}
	}
	return made.String()
}

// wantNumber is the number of such digits.
func wantNumber(digits string) uint32 {
	n := uint32(0)
	for i := len(digits) - 1; i >= 0; i-- {
		n = 2*n + uint32(digits[i]-'0')
	}
	return n
}

func checkTake(t *testing.T, r *bitio.Reader, width int, n uint32, e api.Errno, left int) {
	t.Helper()
	if got, gotE := r.Take(width); got != n || gotE != e || r.Left() != left {
		t.Fatalf("Take(%d) = %x, %d, %d are left, want %x, %d, %d", width, got, gotE, r.Left(), n, e, left)
	}
}

// readerAt is a reader that stands at the bit at of s.
func readerAt(t *testing.T, s string, at int) *bitio.Reader {
	t.Helper()
	r := bitio.New(s)
	for at > 0 {
		width := min(at, widest)
		if _, e := r.Take(width); e != api.OK {
			t.Fatal(e)
		}
		at -= width
	}
	return r
}

func TestTakeKnown(t *testing.T) {
	r := bitio.New("\xbc\xda\x01")
	checkTake(t, r, 12, 0xabc, api.OK, 12)
	checkTake(t, r, 0, 0, api.OK, 12)
	checkTake(t, r, 4, 0xd, api.OK, 8)
	checkTake(t, r, 1, 1, api.OK, 7)
	checkTake(t, r, 7, 0, api.OK, 0)
	checkTake(t, bitio.New("\x56\x34\x12"), 24, 0x123456, api.OK, 0)
	checkTake(t, bitio.New("\x05"), 3, 5, api.OK, 5)
	checkTake(t, bitio.New("\x80"), 8, 128, api.OK, 0)
}

func TestTakeFromEachPlace(t *testing.T) {
	some := rand.New(rand.NewSource(4))
	for _, s := range []string{"", "\x00", "\xff", "\xff\xff\xff\xff\xff", someText(some, 4), someText(some, 9), "\x01\x80\x00\x01\x80"} {
		digits := wantBits(s)
		for at := range len(digits) + 1 {
			left := len(digits) - at
			for width := range widest + 1 {
				r := readerAt(t, s, at)
				if width > left {
					checkTake(t, r, width, 0, api.ErrShort, left)
				} else {
					checkTake(t, r, width, wantNumber(digits[at:at+width]), api.OK, left-width)
				}
			}
		}
	}
}

func TestTakeToTheEnd(t *testing.T) {
	some := rand.New(rand.NewSource(5))
	for n := range 60 {
		s := someText(some, n)
		digits := wantBits(s)
		r := bitio.New(s)
		for len(digits) > 0 {
			if r.Left() != len(digits) {
				t.Fatalf("%d bits are left, want %d", r.Left(), len(digits))
			}
			width := min(some.Intn(widest+1), len(digits))
			checkTake(t, r, width, wantNumber(digits[:width]), api.OK, len(digits)-width)
			digits = digits[width:]
		}
		checkTake(t, r, 0, 0, api.OK, 0)
		checkTake(t, r, 1, 0, api.ErrShort, 0)
		checkTake(t, r, widest, 0, api.ErrShort, 0)
	}
}

// A width that may not be is told ahead of bits that are too few.
func TestTakeOfWrongWidths(t *testing.T) {
	for _, s := range []string{"", "\xff", "\xff\xff\xff\xff", strings.Repeat("\xff", 40)} {
		for _, at := range []int{0, 1, 8 * len(s)} {
			if at > 8*len(s) {
				continue
			}
			r := readerAt(t, s, at)
			for _, width := range wrongWidths() {
				checkTake(t, r, width, 0, api.ErrArg, 8*len(s)-at)
			}
		}
	}
}

func TestTakeStaysWithAnError(t *testing.T) {
	r := bitio.New("\xbc\xda")
	checkTake(t, r, 17, 0, api.ErrShort, 16)
	checkTake(t, r, 24, 0, api.ErrShort, 16)
	checkTake(t, r, 25, 0, api.ErrArg, 16)
	checkTake(t, r, 12, 0xabc, api.OK, 4)
	for range 3 {
		checkTake(t, r, 5, 0, api.ErrShort, 4)
		checkTake(t, r, -1, 0, api.ErrArg, 4)
		checkTake(t, r, math.MinInt, 0, api.ErrArg, 4)
		checkTake(t, r, math.MaxInt, 0, api.ErrArg, 4)
	}
	checkTake(t, r, 4, 0xd, api.OK, 0)
}

func TestReadersStandForThemselves(t *testing.T) {
	const s = "\xbc\xda"
	a, b := bitio.New(s), bitio.New(s)
	checkTake(t, a, 8, 0xbc, api.OK, 8)
	checkTake(t, b, 4, 0xc, api.OK, 12)
	checkTake(t, a, 4, 0xa, api.OK, 4)
	checkTake(t, b, 4, 0xb, api.OK, 8)
	checkTake(t, bitio.New("\x01"), 8, 1, api.OK, 0)
	checkTake(t, a, 4, 0xd, api.OK, 0)
	checkTake(t, b, 8, 0xda, api.OK, 0)
}

func TestLeftStays(t *testing.T) {
	for n := range 50 {
		r := bitio.New(strings.Repeat("x", n))
		for range 3 {
			if r.Left() != 8*n {
				t.Errorf("%d bits are left of %d bytes", r.Left(), n)
			}
		}
	}
}

// P6.3

func checkEnd(t *testing.T, r *bitio.Reader, want api.Errno) {
	t.Helper()
	left := r.Left()
	for range 2 {
		if e := r.End(); e != want || r.Left() != left {
			t.Fatalf("End with %d bits left: %d, and %d are left then, want %d", left, e, r.Left(), want)
		}
	}
}

func TestEndKnown(t *testing.T) {
	checkEnd(t, bitio.New(""), api.OK)
	checkEnd(t, bitio.New("\x00"), api.ErrMore)
	checkEnd(t, bitio.New("\x01"), api.ErrMore)
	checkEnd(t, bitio.New("\x00\x00"), api.ErrMore)
	checkEnd(t, bitio.New(strings.Repeat("\x00", 100)), api.ErrMore)
}

// All bytes, from each of their bits, with all bits ahead of them.
func TestEndFromEachPlace(t *testing.T) {
	for b := range 256 {
		for _, ahead := range []string{"", "\x00", "\xff\xff", "\x80\x01\x00\x80"} {
			s := ahead + string([]byte{byte(b)})
			digits := wantBits(s)
			for at := range len(digits) + 1 {
				want := api.OK
				if rest := digits[at:]; len(rest) >= 8 || strings.Contains(rest, "1") {
					want = api.ErrMore
				}
				checkEnd(t, readerAt(t, s, at), want)
			}
		}
	}
}

func TestEndStays(t *testing.T) {
	r := bitio.New("\x80")
	checkTake(t, r, 3, 0, api.OK, 5)
	checkEnd(t, r, api.ErrMore)
	checkTake(t, r, 4, 0, api.OK, 1)
	checkEnd(t, r, api.ErrMore)
	checkTake(t, r, 1, 1, api.OK, 0)
	checkEnd(t, r, api.OK)

	r = bitio.New("\x07")
	checkTake(t, r, 3, 7, api.OK, 5)
	checkEnd(t, r, api.OK)
	checkTake(t, r, 5, 0, api.OK, 0)
	checkEnd(t, r, api.OK)
}

func TestEndWithAnError(t *testing.T) {
	r := bitio.New("\x07")
	checkTake(t, r, 9, 0, api.ErrShort, 8)
	checkEnd(t, r, api.ErrMore)
	checkTake(t, r, 3, 7, api.OK, 5)
	checkTake(t, r, 6, 0, api.ErrShort, 5)
	checkTake(t, r, 25, 0, api.ErrArg, 5)
	checkEnd(t, r, api.OK)
}

// P6.4

func checkTaken(t *testing.T, l []bitio.Piece) {
	t.Helper()
	s, e := bitio.Pack(l)
	if e != api.OK {
		t.Fatalf("Pack(%v): %d", l, e)
	}
	r := bitio.New(s)
	left := 8 * len(s)
	if fill := left - bitio.Size(l); fill < 0 || fill > 7 {
		t.Fatalf("%d bits fill up %d bytes", fill, len(s))
	}
	for _, p := range l {
		left -= p.Width
		checkTake(t, r, p.Width, p.N, api.OK, left)
	}
	checkEnd(t, r, api.OK)
}

func TestWhatWasPackedIsTaken(t *testing.T) {
	r := rand.New(rand.NewSource(6))
	checkTaken(t, nil)
	for width := range widest + 1 {
		checkTaken(t, []bitio.Piece{{N: 0, Width: width}})
		checkTaken(t, []bitio.Piece{{N: 1<<width - 1, Width: width}})
	}
	for n := range 300 {
		checkTaken(t, somePieces(r, n))
	}
	checkTaken(t, somePieces(r, 5000))
}

// Bits that fill up are at the end; one more byte, or one more bit that is 1, is not.
func TestMoreThanWasPacked(t *testing.T) {
	r := rand.New(rand.NewSource(7))
	for n := range 100 {
		l := somePieces(r, n)
		s, _ := bitio.Pack(l)
		size := bitio.Size(l)
		checkEnd(t, readerAt(t, s+"\x00", size), api.ErrMore)
		for at := size; at < 8*len(s); at++ {
			changed := []byte(s)
			changed[at/8] |= 1 << (at % 8)
			checkEnd(t, readerAt(t, string(changed), size), api.ErrMore)
		}
	}
}

// R3, R5

func TestArgumentsStay(t *testing.T) {
	r := rand.New(rand.NewSource(8))
	for n := range 50 {
		all := append(somePieces(r, n), bitio.Piece{N: 9, Width: 99}, bitio.Piece{N: 2, Width: 2})
		same := slices.Clone(all)
		s, e := bitio.Pack(all[:n])
		bitio.Pack(all)
		bitio.Size(all)
		if !slices.Equal(all, same) {
			t.Fatalf("%v became %v", same, all)
		}
		want, _ := wantPack(all[:n])
		clear(all)
		if s != want || e != api.OK {
			t.Fatalf("Pack hangs on what is behind the list, or on what it becomes")
		}
	}
}

func TestAnswersAreTheSame(t *testing.T) {
	l := somePieces(rand.New(rand.NewSource(9)), 200)
	want, size := wantPack(l)
	var wait sync.WaitGroup
	for range 8 {
		wait.Go(func() {
			for range 20 {
				s, e := bitio.Pack(l)
				if s != want || e != api.OK || bitio.Size(l) != size {
					t.Error("another answer to the same call")
				}
				r := bitio.New(want)
				for _, p := range l {
					if n, e := r.Take(p.Width); n != p.N || e != api.OK {
						t.Error("another number was taken")
					}
				}
			}
		})
	}
	wait.Wait()
}

func BenchmarkPackAndTake(b *testing.B) {
	l := somePieces(rand.New(rand.NewSource(10)), 4096)
	for b.Loop() {
		s, _ := bitio.Pack(l)
		r := bitio.New(s)
		for _, p := range l {
			r.Take(p.Width)
		}
	}
}
