package varint_test

import (
	"encoding/binary"
	"math"
	"math/big"
	"math/rand"
	"strings"
	"sync"
	"testing"

	"hanaper/api"
	"hanaper/varint"
)

// numbers are those round the ends of the sevens and of the bytes, and others of all lengths.
func numbers(r *rand.Rand) []uint64 {
	ns := []uint64{0, 300, math.MaxUint64, math.MaxUint64 - 1}
	for bits := range 64 {
		end := uint64(1) << bits
		ns = append(ns, end-1, end, end+1)
		for range 20 {
			ns = append(ns, r.Uint64()>>bits)
		}
	}
	return ns
}

func someText(r *rand.Rand, n int) string {
	b := make([]byte, n)
	r.Read(b)
	return string(b)
}

// behinds are bytes that may lie behind what is read.
func behinds(r *rand.Rand) []string {
	return []string{"", "\x00", "\x01", "\x7f", "\x80", "\xff", "\x80\x80\x01", someText(r, 12)}
}

// P4.1

func wantPut(n uint64) string {
	return string(binary.AppendUvarint(nil, n))
}

func TestPutKnown(t *testing.T) {
	for _, c := range []struct {
		n    uint64
		want string
	}{
		{0, "\x00"},
		{1, "\x01"},
		{127, "\x7f"},
		{128, "\x80\x01"},
		{129, "\x81\x01"},
		{255, "\xff\x01"},
		{256, "\x80\x02"},
		{300, "\xac\x02"},
		{16383, "\xff\x7f"},
		{16384, "\x80\x80\x01"},
		{1<<63 - 1, "\xff\xff\xff\xff\xff\xff\xff\xff\x7f"},
		{1 << 63, "\x80\x80\x80\x80\x80\x80\x80\x80\x80\x01"},
		{math.MaxUint64, "\xff\xff\xff\xff\xff\xff\xff\xff\xff\x01"},
	} {
		if got := varint.Put(c.n); got != c.want {
			t.Errorf("Put(%d) = %x, want %x", c.n, got, c.want)
		}
	}
}

func TestPutOfManyNumbers(t *testing.T) {
	for n := range uint64(1 << 17) {
		checkPut(t, n)
	}
	for _, n := range numbers(rand.New(rand.NewSource(1))) {
		checkPut(t, n)
	}
}

func checkPut(t *testing.T, n uint64) {
	t.Helper()
	if got, want := varint.Put(n), wantPut(n); got != want {
		t.Fatalf("Put(%d) = %x, want %x", n, got, want)
	}
}

// P4.2

// wantGet looks for the byte below 128 first, and sums whole numbers then.
func wantGet(s string) (uint64, string, api.Errno) {
	end := 0
	for end < len(s) && s[end] >= 128 {
		end++
	}
	if end >= 10 {
		return 0, "", api.ErrLong
	}
	if end == len(s) {
		return 0, "", api.ErrShort
	}
	sum := new(big.Int)
	for i := end; i >= 0; i-- {
		sum.Lsh(sum, 7)
		sum.Add(sum, big.NewInt(int64(s[i]%128)))
	}
	if end > 0 && s[end] == 0 || !sum.IsUint64() {
		return 0, "", api.ErrLong
	}
	return sum.Uint64(), s[end+1:], api.OK
}

func checkGet(t *testing.T, s string) {
	t.Helper()
	n, rest, e := varint.Get(s)
	wantN, wantRest, wantE := wantGet(s)
	if n != wantN || rest != wantRest || e != wantE {
		t.Fatalf("Get(%x) = %d, %x, %d, want %d, %x, %d", s, n, rest, e, wantN, wantRest, wantE)
	}
}

func TestGetKnown(t *testing.T) {
	nines := strings.Repeat("\xff", 9)
	empties := strings.Repeat("\x80", 9)
	for _, c := range []struct {
		s    string
		n    uint64
		rest string
		e    api.Errno
	}{
		{"\x00", 0, "", api.OK},
		{"\x00\x00", 0, "\x00", api.OK},
		{"\x7f\x80", 127, "\x80", api.OK},
		{"\xac\x02", 300, "", api.OK},
		{"\xac\x02\xac\x02", 300, "\xac\x02", api.OK},
		{nines + "\x01ab", math.MaxUint64, "ab", api.OK},
		{empties + "\x01", 1 << 63, "", api.OK},
		{"", 0, "", api.ErrShort},
		{"\x80", 0, "", api.ErrShort},
		{"\xff", 0, "", api.ErrShort},
		{empties, 0, "", api.ErrShort},
		{nines, 0, "", api.ErrShort},
		{"\x80\x00", 0, "", api.ErrLong},
		{"\xff\x00", 0, "", api.ErrLong},
		{"\xac\x82\x00", 0, "", api.ErrLong},
		{"\x80\x00\x01", 0, "", api.ErrLong},
		{empties + "\x00", 0, "", api.ErrLong},
		{nines + "\x00", 0, "", api.ErrLong},
		{nines + "\x02", 0, "", api.ErrLong},
		{nines + "\x03", 0, "", api.ErrLong},
		{empties + "\x02", 0, "", api.ErrLong},
		{empties + "\x7f", 0, "", api.ErrLong},
		{nines + "\xff", 0, "", api.ErrLong},
		{empties + "\x80", 0, "", api.ErrLong},
		{empties + "\x81", 0, "", api.ErrLong},
		{nines + "\xff\x01", 0, "", api.ErrLong},
		{empties + "\x80\x01", 0, "", api.ErrLong},
		{strings.Repeat("\xff", 4000), 0, "", api.ErrLong},
	} {
		if n, rest, e := varint.Get(c.s); n != c.n || rest != c.rest || e != c.e {
			t.Errorf("Get(%x) = %d, %x, %d, want %d, %x, %d", c.s, n, rest, e, c.n, c.rest, c.e)
		}
	}
}

func TestGetOfAllShortTexts(t *testing.T) {
	checkGet(t, "")
	for a := range 256 {
		checkGet(t, string([]byte{byte(a)}))
		for b := range 256 {
			checkGet(t, string([]byte{byte(a), byte(b)}))
			for _, c := range []byte{0, 1, 127, 128, 255} {
				checkGet(t, string([]byte{byte(a), byte(b), c}))
			}
		}
	}
}

// Random bytes seldom go on for long: here some of them are made to.
func TestGetOfLongTexts(t *testing.T) {
	r := rand.New(rand.NewSource(2))
	for high := range 14 {
		for last := range 256 {
			for range 20 {
				s := []byte(someText(r, high+r.Intn(4)+1))
				for i := range high {
					s[i] |= 128
				}
				s[high] = byte(last)
				checkGet(t, string(s))
				checkGet(t, string(s[:high]))
			}
		}
	}
}

func TestPutsThatAreCutShort(t *testing.T) {
	for _, n := range numbers(rand.New(rand.NewSource(3))) {
		s := varint.Put(n)
		for end := range len(s) {
			if m, rest, e := varint.Get(s[:end]); m != 0 || rest != "" || e != api.ErrShort {
				t.Errorf("Get(%x) = %d, %x, %d", s[:end], m, rest, e)
			}
		}
	}
}

// P4.3

func TestTextKnown(t *testing.T) {
	for _, c := range []struct{ s, want string }{
		{"", "\x00"},
		{"abc", "\x03abc"},
		{"\x00\xff\x80", "\x03\x00\xff\x80"},
		{"ä€", "\x05ä€"},
		{strings.Repeat("x", 127), "\x7f" + strings.Repeat("x", 127)},
		{strings.Repeat("x", 128), "\x80\x01" + strings.Repeat("x", 128)},
		{strings.Repeat("x", 300), "\xac\x02" + strings.Repeat("x", 300)},
		{strings.Repeat("x", 16384), "\x80\x80\x01" + strings.Repeat("x", 16384)},
	} {
		if got := varint.Text(c.s); got != c.want {
			t.Errorf("Text of %d bytes: %d bytes, or others", len(c.s), len(got))
		}
	}
}

func TestReadKnown(t *testing.T) {
	nines := strings.Repeat("\xff", 9)
	long := strings.Repeat("x", 300)
	for _, c := range []struct {
		s, text, rest string
		e             api.Errno
	}{
		{"\x00", "", "", api.OK},
		{"\x00z", "", "z", api.OK},
		{"\x03abc", "abc", "", api.OK},
		{"\x03abcd", "abc", "d", api.OK},
		{"\x01\x80\x80", "\x80", "\x80", api.OK},
		{"\xac\x02" + long, long, "", api.OK},
		{"\xac\x02" + long + "\xac", long, "\xac", api.OK},
		{"", "", "", api.ErrShort},
		{"\x80", "", "", api.ErrShort},
		{"\x01", "", "", api.ErrShort},
		{"\x04abc", "", "", api.ErrShort},
		{"\xac\x02" + long[1:], "", "", api.ErrShort},
		{"\x83\x80abc", "", "", api.ErrShort}, // a is of the length yet
		{"\x83\x00abc", "", "", api.ErrLong},
		{"\x80\x00", "", "", api.ErrLong},
		{nines + "\x02abc", "", "", api.ErrLong},
		{nines + "\xff", "", "", api.ErrLong},
		// Lengths that are small, or below 0, in fewer bits.
		{nines + "\x01a", "", "", api.ErrShort},
		{varint.Put(1<<63) + "a", "", "", api.ErrShort},
		{varint.Put(1<<63-1) + "a", "", "", api.ErrShort},
		{varint.Put(1<<32) + "a", "", "", api.ErrShort},
		{varint.Put(1<<32+1) + "a", "", "", api.ErrShort},
		{varint.Put(1<<31) + "a", "", "", api.ErrShort},
		{varint.Put(1<<63+1) + "a", "", "", api.ErrShort},
		{varint.Put(257) + "a", "", "", api.ErrShort},
		{varint.Put(65537) + "a", "", "", api.ErrShort},
	} {
		if text, rest, e := varint.Read(c.s); text != c.text || rest != c.rest || e != c.e {
			t.Errorf("Read(%x) = %x, %x, %d, want %x, %x, %d", c.s, text, rest, e, c.text, c.rest, c.e)
		}
	}
}

// Each error of Get's is Read's, and lengths that are too great are short.
func TestReadIsOfGet(t *testing.T) {
	r := rand.New(rand.NewSource(4))
	for range 20000 {
		s := someText(r, r.Intn(40))
		if s != "" && r.Intn(2) == 0 {
			s = string([]byte{byte(r.Intn(45))}) + s[1:]
		}
		n, behind, want := wantGet(s)
		wantText, wantRest := "", ""
		switch {
		case want != api.OK:
		case n > uint64(len(behind)):
			want = api.ErrShort
		default:
			wantText, wantRest = behind[:n], behind[n:]
		}
		if text, rest, e := varint.Read(s); text != wantText || rest != wantRest || e != want {
			t.Fatalf("Read(%x) = %x, %x, %d, want %x, %x, %d", s, text, rest, e, wantText, wantRest, want)
		}
	}
}

func TestTextsThatAreCutShort(t *testing.T) {
	r := rand.New(rand.NewSource(5))
	for _, n := range []int{0, 1, 2, 127, 128, 129, 300} {
		s := varint.Text(someText(r, n))
		for end := range len(s) {
			if text, rest, e := varint.Read(s[:end]); text != "" || rest != "" || e != api.ErrShort {
				t.Errorf("%d bytes of a text of %d: %x, %x, %d", end, n, text, rest, e)
			}
		}
	}
}

// P4.4

// badWidths are none, at the ends and where narrower numbers would turn round.
var badWidths = []int{math.MinInt, -1 << 32, -256, -255, -8, -1, 0, 9, 10, 16, 64, 256, 257, 264, 1<<32 + 1, 1<<32 + 8, math.MaxInt}

// wantBytes is all eight bytes of n, the highest one first.
func wantBytes(n uint64) string {
	return string(binary.BigEndian.AppendUint64(nil, n))
}

func TestBigKnown(t *testing.T) {
	for _, c := range []struct {
		n     uint64
		width int
		want  string
	}{
		{0, 1, "\x00"},
		{0, 8, "\x00\x00\x00\x00\x00\x00\x00\x00"},
		{255, 1, "\xff"},
		{256, 1, "\x00"},
		{0x010203, 1, "\x03"},
		{0x010203, 2, "\x02\x03"},
		{0x010203, 3, "\x01\x02\x03"},
		{0x010203, 4, "\x00\x01\x02\x03"},
		{0x0102030405060708, 5, "\x04\x05\x06\x07\x08"},
		{0x0102030405060708, 7, "\x02\x03\x04\x05\x06\x07\x08"},
		{0x0102030405060708, 8, "\x01\x02\x03\x04\x05\x06\x07\x08"},
		{1 << 56, 8, "\x01\x00\x00\x00\x00\x00\x00\x00"},
		{math.MaxUint64, 8, "\xff\xff\xff\xff\xff\xff\xff\xff"},
	} {
		if got := varint.Big(c.n, c.width); got != c.want {
			t.Errorf("Big(%d, %d) = %x, want %x", c.n, c.width, got, c.want)
		}
	}
}

func TestBigOfManyNumbers(t *testing.T) {
	for _, n := range numbers(rand.New(rand.NewSource(6))) {
		for width := 1; width <= 8; width++ {
			if got, want := varint.Big(n, width), wantBytes(n)[8-width:]; got != want {
				t.Errorf("Big(%d, %d) = %x, want %x", n, width, got, want)
			}
		}
	}
}

func TestFixedKnown(t *testing.T) {
	for _, c := range []struct {
		s     string
		width int
		n     uint64
		rest  string
		e     api.Errno
	}{
		{"\x02\x03z", 2, 0x203, "z", api.OK},
		{"\x02\x03z", 1, 2, "\x03z", api.OK},
		{"\x02\x03z", 3, 0x02037a, "", api.OK},
		{"\x00\x00\x00\x00", 3, 0, "\x00", api.OK},
		{"\xff", 1, 255, "", api.OK},
		{"\x01\x02\x03\x04\x05\x06\x07\x08\x09", 8, 0x0102030405060708, "\x09", api.OK},
		{"\xff\xff\xff\xff\xff\xff\xff\xff", 8, math.MaxUint64, "", api.OK},
		{"\x80\x00\x00\x00\x00\x00\x00\x00", 8, 1 << 63, "", api.OK},
		{"", 1, 0, "", api.ErrShort},
		{"", 8, 0, "", api.ErrShort},
		{"a", 2, 0, "", api.ErrShort},
		{"abcdefg", 8, 0, "", api.ErrShort},
	} {
		if n, rest, e := varint.Fixed(c.s, c.width); n != c.n || rest != c.rest || e != c.e {
			t.Errorf("Fixed(%x, %d) = %d, %x, %d, want %d, %x, %d", c.s, c.width, n, rest, e, c.n, c.rest, c.e)
		}
	}
}

func TestFixedOfAllLengths(t *testing.T) {
	r := rand.New(rand.NewSource(7))
	for length := range 20 {
		for width := 1; width <= 8; width++ {
			s := someText(r, length)
			wantN, wantRest, wantE := uint64(0), "", api.ErrShort
			if length >= width {
				whole := strings.Repeat("\x00", 8-width) + s[:width]
				wantN, wantRest, wantE = binary.BigEndian.Uint64([]byte(whole)), s[width:], api.OK
			}
			if n, rest, e := varint.Fixed(s, width); n != wantN || rest != wantRest || e != wantE {
				t.Errorf("Fixed(%x, %d) = %d, %x, %d, want %d, %x, %d", s, width, n, rest, e, wantN, wantRest, wantE)
			}
		}
	}
}

func TestWidthsThatAreNone(t *testing.T) {
	for _, width := range badWidths {
		for _, n := range []uint64{0, 1, math.MaxUint64} {
			if got := varint.Big(n, width); got != "" {
				t.Errorf("Big(%d, %d) = %x", n, width, got)
			}
		}
		// Both errors apply to texts that are short, too: the width's is named first.
		for _, s := range []string{"", "a", "abc", "some text, of more than all widths"} {
			if n, rest, e := varint.Fixed(s, width); n != 0 || rest != "" || e != api.ErrArg {
				t.Errorf("Fixed(%q, %d) = %d, %q, %d", s, width, n, rest, e)
			}
		}
	}
}

// P4.5

func TestWhatWasPutIsRead(t *testing.T) {
	r := rand.New(rand.NewSource(8))
	for _, n := range numbers(r) {
		for _, behind := range behinds(r) {
			if m, rest, e := varint.Get(varint.Put(n) + behind); m != n || rest != behind || e != api.OK {
				t.Errorf("%d, and %x behind: %d, %x, %d", n, behind, m, rest, e)
			}
		}
	}
}

func TestTextsArePutAndRead(t *testing.T) {
	r := rand.New(rand.NewSource(9))
	for _, n := range []int{0, 1, 2, 126, 127, 128, 129, 300, 4000, 16383, 16384, 70000} {
		s := someText(r, n)
		for _, behind := range behinds(r) {
			if text, rest, e := varint.Read(varint.Text(s) + behind); text != s || rest != behind || e != api.OK {
				t.Errorf("a text of %d bytes, and %x behind: %d bytes, %x, %d", n, behind, len(text), rest, e)
			}
		}
	}
}

func TestBytesOfAWidthAreRead(t *testing.T) {
	r := rand.New(rand.NewSource(10))
	for _, n := range numbers(r) {
		for width := 1; width <= 8; width++ {
			want := n << (64 - 8*width) >> (64 - 8*width)
			for _, behind := range behinds(r) {
				if m, rest, e := varint.Fixed(varint.Big(n, width)+behind, width); m != want || rest != behind || e != api.OK {
					t.Errorf("%d in %d bytes, and %x behind: %d, %x, %d", n, width, behind, m, rest, e)
				}
			}
		}
	}
}

// Bytes that are read as a number are that number's Put.
func TestANumberHasOnePut(t *testing.T) {
	r := rand.New(rand.NewSource(11))
	seen := 0
	for range 100000 {
		b := []byte(someText(r, 12))
		for i := range r.Intn(11) {
			b[i] |= 128
		}
		s := string(b)
		n, rest, e := varint.Get(s)
		if e != api.OK {
			continue
		}
		seen++
		if varint.Put(n)+rest != s {
			t.Fatalf("Get(%x) = %d, %x, whose Put is %x", s, n, rest, varint.Put(n))
		}
	}
	if seen < 10000 {
		t.Errorf("%d numbers alone were read", seen)
	}
}

func TestOneNumberBehindTheOther(t *testing.T) {
	ns := numbers(rand.New(rand.NewSource(12)))
	all := ""
	for _, n := range ns {
		all += varint.Put(n) + varint.Text(wantBytes(n)) + varint.Big(n, 8)
	}
	for i, want := range ns {
		var n, m uint64
		var text string
		var e1, e2, e3 api.Errno
		n, all, e1 = varint.Get(all)
		text, all, e2 = varint.Read(all)
		m, all, e3 = varint.Fixed(all, 8)
		if n != want || text != wantBytes(want) || m != want || e1 != api.OK || e2 != api.OK || e3 != api.OK {
			t.Fatalf("number %d: %d, %x, %d, errors %d, %d, %d, want %d", i, n, text, m, e1, e2, e3, want)
		}
	}
	if all != "" {
		t.Errorf("%d bytes are left", len(all))
	}
}

// R5

func TestAnswersAreTheSame(t *testing.T) {
	r := rand.New(rand.NewSource(13))
	ns, texts := numbers(r)[:40], behinds(r)
	var wait sync.WaitGroup
	for range 8 {
		wait.Go(func() {
			for _, n := range ns {
				for _, s := range texts {
					made := varint.Put(n) + varint.Text(s) + s
					m, behind, e1 := varint.Get(made)
					text, rest, e2 := varint.Read(behind)
					if m != n || text != s || rest != s || e1 != api.OK || e2 != api.OK {
						t.Errorf("%d, %x: %d, %x, %x, errors %d, %d", n, s, m, text, rest, e1, e2)
					}
				}
			}
		})
	}
	wait.Wait()
}

func BenchmarkPutAndGet(b *testing.B) {
	for b.Loop() {
		varint.Get(varint.Put(math.MaxUint64))
	}
}
