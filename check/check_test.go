package check_test

import (
	"encoding/binary"
	"encoding/hex"
	"hash/crc32"
	"math/rand"
	"slices"
	"strings"
	"sync"
	"testing"

	"hanaper/api"
	"hanaper/check"
)

const (
	most = 1024 // bytes of a frame
	head = 6    // bytes ahead of what is framed
)

func someText(r *rand.Rand, n int) string {
	b := make([]byte, n)
	r.Read(b)
	return string(b)
}

// wantSum goes bit by bit, as the chapter does.
func wantSum(s string) uint32 {
	n := uint32(1<<32 - 1)
	for _, c := range []byte(s) {
		n ^= uint32(c)
		for range 8 {
			low := n % 2
			n /= 2
			if low == 1 {
				n ^= 0xEDB88320
			}
		}
	}
	return n ^ (1<<32 - 1)
}

// begun is a length, any at all, and a sum that holds, and s.
func begun(length int, s string) string {
	size := string(binary.BigEndian.AppendUint16(nil, uint16(length)))
	sum := crc32.ChecksumIEEE([]byte(size + s))
	return size + string(binary.BigEndian.AppendUint32(nil, sum)) + s
}

func wantFrame(s string) string {
	return begun(len(s), s)
}

// wantFirst looks for what is wrong from the front on.
func wantFirst(s string) (string, string, api.Errno) {
	if len(s) == 0 {
		return "", "", api.ErrNone
	}
	if len(s) < head {
		return "", "", api.ErrShort
	}
	n := int(s[0])*256 + int(s[1])
	if n > most {
		return "", "", api.ErrCap
	}
	if len(s) < head+n {
		return "", "", api.ErrShort
	}
	framed, rest := s[head:head+n], s[head+n:]
	if s[:head+n] != wantFrame(framed) {
		return "", "", api.ErrSum
	}
	return framed, rest, api.OK
}

func wantAll(s string) ([]string, int) {
	var l []string
	n := 0
	for {
		framed, rest, e := wantFirst(s)
		if e != api.OK {
			return l, n
		}
		l = append(l, framed)
		n += len(s) - len(rest)
		s = rest
	}
}

func checkFirst(t *testing.T, s, framed, rest string, e api.Errno) {
	t.Helper()
	if gotFramed, gotRest, gotE := check.First(s); gotFramed != framed || gotRest != rest || gotE != e {
		t.Errorf("First of %d bytes, %.40x: %.40x, %.40x, %d, want %.40x, %.40x, %d", len(s), s, gotFramed, gotRest, gotE, framed, rest, e)
	}
}

func checkAll(t *testing.T, s string, want []string, wantN int) {
	t.Helper()
	if got, n := check.All(s); !slices.Equal(got, want) || n != wantN {
		t.Errorf("All of %d bytes, %.40x: %.40q of %d bytes, want %.40q of %d bytes", len(s), s, got, n, want, wantN)
	}
}

func frame(t *testing.T, s string) string {
	t.Helper()
	made, e := check.Frame(s)
	if e != api.OK {
		t.Fatalf("Frame of %d bytes: error %d", len(s), e)
	}
	return made
}

// rowOf frames the texts, one behind the other.
func rowOf(t *testing.T, texts []string) string {
	t.Helper()
	row := ""
	for _, s := range texts {
		row += frame(t, s)
	}
	return row
}

// P10.1

// The sums are of a program in another language.
func TestSumKnown(t *testing.T) {
	for _, c := range []struct {
		s    string
		want uint32
	}{
		{"", 0},
		{"a", 0xe8b7be43},
		{"abc", 0x352441c2},
		{"123456789", 0xcbf43926},
		{"The quick brown fox jumps over the lazy dog", 0x414fa339},
		{"ä€", 0xd62dfa80},
		{"\x00", 0xd202ef8d},
		{"\x80", 0x3fba6cad},
		{"\xff", 0xff000000},
		{"\xff\xff\xff\xff", 0xffffffff},
		{strings.Repeat("\x00", 32), 0x190a55ad},
		{strings.Repeat("\xff", 32), 0xff6cab0b},
		{strings.Repeat("x", 1024), 0x48d7f063},
		{strings.Repeat("ab", 500000), 0x6711111e},
	} {
		if got := check.Sum(c.s); got != c.want {
			t.Errorf("Sum of %d bytes, %.20q: %x, want %x", len(c.s), c.s, got, c.want)
		}
	}
}

func checkSum(t *testing.T, s string) {
	t.Helper()
	if got, want := check.Sum(s), wantSum(s); got != want {
		t.Fatalf("Sum of %d bytes, %.40x: %x, want %x", len(s), s, got, want)
	}
}

func TestSumOfShortTexts(t *testing.T) {
	for a := range 256 {
		checkSum(t, string([]byte{byte(a)}))
		for b := range 256 {
			checkSum(t, string([]byte{byte(a), byte(b)}))
		}
	}
}

func TestSumOfAllLengths(t *testing.T) {
	r := rand.New(rand.NewSource(1))
	for n := range 300 {
		checkSum(t, someText(r, n))
	}
	for _, n := range []int{1023, 1024, 1025, 4096, 65535, 65536, 100000} {
		checkSum(t, someText(r, n))
	}
}

// P10.2

// The frames are of a program in another language.
func TestFrameKnown(t *testing.T) {
	for _, c := range []struct{ s, begins string }{
		{"", "000041d912ff"},
		{"\x00", "0001e65ae853"},
		{"abc", "00031ef2c023"},
		{"64345", "0005573d0000"},
		{strings.Repeat("x", 255), "00ff0a3e492f"},
		{strings.Repeat("x", 256), "0100df1da1ce"},
		{strings.Repeat("\xff", 1023), "03ffe4db363e"},
		{strings.Repeat("x", 1024), "040008a8209e"},
	} {
		begins, err := hex.DecodeString(c.begins)
		if err != nil {
			t.Fatal(err)
		}
		if got, e := check.Frame(c.s); got != string(begins)+c.s || e != api.OK {
			t.Errorf("Frame of %d bytes: %.40x, %d, want %s and them", len(c.s), got, e, c.begins)
		}
	}
}

func TestFrameOfAllLengths(t *testing.T) {
	r := rand.New(rand.NewSource(2))
	for n := range most + 1 {
		s := someText(r, n)
		if got, e := check.Frame(s); got != wantFrame(s) || e != api.OK {
			t.Fatalf("Frame of %d bytes: %.40x, %d", n, got, e)
		}
	}
}

// Some lengths are small again, if they are taken as two bytes.
func TestFrameNoMoreThanMayBe(t *testing.T) {
	for _, n := range []int{1025, 1026, 1030, 2048, 4096, 65535, 65536, 65537, 65536 + most, 1 << 20} {
		if got, e := check.Frame(strings.Repeat("x", n)); got != "" || e != api.ErrCap {
			t.Errorf("Frame of %d bytes: %d bytes, %d", n, len(got), e)
		}
	}
}

// P10.3

func TestFirstKnown(t *testing.T) {
	long := strings.Repeat("x", most)
	abc := "\x00\x03\x1e\xf2\xc0\x23abc"
	for _, c := range []struct {
		s, framed, rest string
		e               api.Errno
	}{
		{abc, "abc", "", api.OK},
		{abc + "z", "abc", "z", api.OK},
		{abc + abc, "abc", abc, api.OK},
		{abc + "\x00", "abc", "\x00", api.OK},
		{"\x00\x00\x41\xd9\x12\xff", "", "", api.OK},
		{"\x00\x00\x41\xd9\x12\xffabc", "", "abc", api.OK},
		{"\x04\x00\x08\xa8\x20\x9e" + long, long, "", api.OK},
		{"\x04\x00\x08\xa8\x20\x9e" + long + "x", long, "x", api.OK},
		{"", "", "", api.ErrNone},
		{"\x00", "", "", api.ErrShort},
		{abc[:5], "", "", api.ErrShort},
		{abc[:6], "", "", api.ErrShort},
		{abc[:8], "", "", api.ErrShort},
		{"\x04\x00\x08\xa8\x20\x9e" + long[1:], "", "", api.ErrShort},
		{"\x00\x04" + abc[2:], "", "", api.ErrShort},
		{abc[:8] + "x", "", "", api.ErrSum},
		{abc[:2] + "\x23\xc0\xf2\x1eabc", "", "", api.ErrSum},
		{"\x00\x02" + abc[2:], "", "", api.ErrSum},
		{"\x00\x00\x00\x00\x00\x00", "", "", api.ErrSum},
		{"\x00\x00\x41\xd9\x12\xfe", "", "", api.ErrSum},
		{strings.Repeat("\x00", 2000), "", "", api.ErrSum},
		{strings.Repeat("\xff", 2000), "", "", api.ErrCap},
	} {
		checkFirst(t, c.s, c.framed, c.rest, c.e)
	}
}

// The sum is of the length, too: that of what is framed alone does not hold.
func TestFirstSumsTheLength(t *testing.T) {
	for _, s := range []string{"", "abc", strings.Repeat("x", most)} {
		made := []byte(wantFrame(s))
		binary.BigEndian.PutUint32(made[2:], crc32.ChecksumIEEE([]byte(s)))
		checkFirst(t, string(made), "", "", api.ErrSum)
	}
}

func TestFirstOfEachLength(t *testing.T) {
	r := rand.New(rand.NewSource(3))
	for n := range 1 << 16 {
		s := someText(r, min(n, most+1))
		framed, rest, e := s, "", api.OK
		if n > most {
			framed, e = "", api.ErrCap
		}
		checkFirst(t, begun(n, s), framed, rest, e)
	}
}

func TestFirstTellsTheFirstError(t *testing.T) {
	for _, c := range []struct {
		why, s string
		e      api.Errno
	}{
		{"five bytes, that begin by a length above", "\x04\x01\x00\x00\x00", api.ErrShort},
		{"two bytes, that are a length above", "\xff\xff", api.ErrShort},
		{"a length above, and nothing behind", "\x04\x01\x00\x00\x00\x00", api.ErrCap},
		{"a length above, and less behind", "\x04\x01\x00\x00\x00\x00" + strings.Repeat("x", most), api.ErrCap},
		{"a length above, and another sum", "\x04\x01\x00\x00\x00\x00" + strings.Repeat("x", most+1), api.ErrCap},
		{"a length above, and a sum that holds", wantFrame(strings.Repeat("x", most+1)), api.ErrCap},
		{"less behind, and another sum", "\x00\x04\x00\x00\x00\x00abc", api.ErrShort},
		{"less behind, and a sum of that", begun(4, "abc"), api.ErrShort},
		{"nothing behind, and a sum of that", begun(most, ""), api.ErrShort},
		{"more behind, and a sum of it all", begun(3, "abcd"), api.ErrSum},
	} {
		if framed, rest, e := check.First(c.s); framed != "" || rest != "" || e != c.e {
			t.Errorf("%s: %.20q, %.20q, %d, want %d", c.why, framed, rest, e, c.e)
		}
	}
}

// Lengths are small in most of them, so that not all are too short.
func TestFirstOfRandomBytes(t *testing.T) {
	r := rand.New(rand.NewSource(4))
	seen := map[api.Errno]int{}
	for range 20000 {
		b := []byte(someText(r, r.Intn(60)))
		if len(b) > 1 && r.Intn(8) > 0 {
			b[0], b[1] = byte(r.Intn(300)/256), byte(r.Intn(60))
		}
		if r.Intn(4) == 0 {
			b = []byte(wantFrame(string(b)) + string(b))
		}
		framed, rest, e := wantFirst(string(b))
		checkFirst(t, string(b), framed, rest, e)
		seen[e]++
	}
	for _, e := range []api.Errno{api.OK, api.ErrNone, api.ErrShort, api.ErrCap, api.ErrSum} {
		if seen[e] < 100 {
			t.Errorf("%d texts alone came to %d", seen[e], e)
		}
	}
}

// P10.4

func TestAllKnown(t *testing.T) {
	a, none, long := wantFrame("abc"), wantFrame(""), wantFrame(strings.Repeat("x", most))
	l := []string{"abc", "", strings.Repeat("x", most)}
	row := a + none + long
	for _, c := range []struct {
		s    string
		want []string
		n    int
	}{
		{"", nil, 0},
		{a, l[:1], 9},
		{none, l[1:2], 6},
		{long, l[2:], head + most},
		{row, l, 9 + 6 + head + most},
		{row + row[:20], append(slices.Clone(l), "abc", ""), 2*(9+6) + head + most},
		{row + "z", l, len(row)},
		{a + a + a, []string{"abc", "abc", "abc"}, 27},
		{none + none, []string{"", ""}, 12},
		{"z", nil, 0},
		{"z" + row, nil, 0},
		{"\x00" + row, nil, 0},
		{a[:8], nil, 0},
		{a[:8] + "x" + a, nil, 0},
		{wantFrame(a + a), []string{a + a}, 24},
	} {
		checkAll(t, c.s, c.want, c.n)
	}
}

// Frames behind the first one that is none are not told, whatever its error is.
func TestAllEndsByTheFirstError(t *testing.T) {
	row := wantFrame("abc") + wantFrame("d")
	for _, wrong := range []string{
		strings.Repeat("\x00", 32),
		"\x00\x03\x1e\xf2\xc0\x23abd",
		"\x00\x03\x1e\xf2\xc0\x22abc",
		"\x04\x01\x00\x00\x00\x00",
		wantFrame(strings.Repeat("x", most+1)),
		"\x03\x00\x00\x00\x00\x00",
		"\x00",
	} {
		checkAll(t, row+wrong+row, []string{"abc", "d"}, 9+7)
		checkAll(t, wrong+row, nil, 0)
	}
}

func TestAllOfManyFrames(t *testing.T) {
	r := rand.New(rand.NewSource(5))
	var l []string
	row := strings.Builder{}
	for i := range 2000 {
		s := someText(r, r.Intn(most+1)*(i%3))
		s = s[:min(len(s), most)]
		l = append(l, s)
		row.WriteString(wantFrame(s))
	}
	checkAll(t, row.String(), l, row.Len())
	checkAll(t, row.String()+"\x00\x00", l, row.Len())
}

func TestAllOfChangedRows(t *testing.T) {
	r := rand.New(rand.NewSource(6))
	for range 5000 {
		row := ""
		for range r.Intn(6) {
			row += wantFrame(someText(r, r.Intn(20)))
		}
		b := []byte(row + someText(r, r.Intn(8)))
		for range r.Intn(2) * min(len(b), 1) {
			b[r.Intn(len(b))] ^= 1 << r.Intn(8)
		}
		l, n := wantAll(string(b))
		checkAll(t, string(b), l, n)
	}
}

// P10.5

func TestWhatWasFramedIsFound(t *testing.T) {
	r := rand.New(rand.NewSource(7))
	for n := range most + 1 {
		s := someText(r, n)
		made := frame(t, s)
		for _, behind := range []string{"", "\x00", "\xff", made, made[:n], someText(r, 40), strings.Repeat("\x00", 2000)} {
			checkFirst(t, made+behind, s, behind, api.OK)
			if l, _ := check.All(made + behind); len(l) == 0 || l[0] != s {
				t.Fatalf("All of a frame of %d bytes and %d others: %d frames", n, len(behind), len(l))
			}
		}
	}
}

func TestWholeFramesOfThoseThatAreCut(t *testing.T) {
	r := rand.New(rand.NewSource(8))
	var l []string
	for _, n := range []int{3, 0, 40, 1, 0, 0, 300, most, 7, 0} {
		l = append(l, someText(r, n))
	}
	row := rowOf(t, l)
	whole, ends := 0, 0
	for cut := range len(row) + 1 {
		if whole < len(l) && cut == ends+head+len(l[whole]) {
			ends = cut
			whole++
		}
		checkAll(t, row[:cut], l[:whole], ends)
	}
	if whole != len(l) {
		t.Errorf("%d frames of %d were cut off", whole, len(l))
	}
}

func TestAFrameThatIsCut(t *testing.T) {
	made := frame(t, strings.Repeat("x", most))
	checkFirst(t, made[:0], "", "", api.ErrNone)
	for cut := 1; cut < len(made); cut++ {
		checkFirst(t, made[:cut], "", "", api.ErrShort)
	}
}

// turned has the bits of pattern turned from the bit at on, in a byte the lowest one first.
func turned(s string, at int, pattern uint32) string {
	b := []byte(s)
	for i := range 32 {
		if pattern>>i&1 == 1 {
			b[(at+i)/8] ^= 1 << ((at + i) % 8)
		}
	}
	return string(b)
}

func checkNothing(t *testing.T, s string) {
	t.Helper()
	checkFirst(t, s, "", "", api.ErrSum)
	checkAll(t, s, nil, 0)
	checkFirst(t, s+s, "", "", api.ErrSum)
}

// patterns are of bits that are within 1 to 32 of one another; the first two are the polynomial's 33 bits less one, as all 33 would not be seen.
func patterns(r *rand.Rand) []uint32 {
	l := []uint32{0xEDB88320, 0xDB710641, 0xFFFFFFFF}
	for bits := range 32 {
		l = append(l, 1<<bits, 1<<bits|1, 1<<bits|r.Uint32()>>(31-bits))
	}
	return l
}

// checkTurned turns patterns of bits at all places from the byte from on, to the frame's byte to.
func checkTurned(t *testing.T, r *rand.Rand, made string, from, to int) {
	t.Helper()
	for at := 8 * from; at < 8*to; at++ {
		for _, pattern := range patterns(r) {
			if fits := 8*to - at; fits < 32 {
				pattern &= 1<<fits - 1
			}
			if pattern != 0 {
				checkNothing(t, turned(made, at, pattern))
			}
		}
	}
}

func TestTurnedBitsOfASum(t *testing.T) {
	r := rand.New(rand.NewSource(9))
	for _, n := range []int{0, 1, 4, 33} {
		checkTurned(t, r, frame(t, someText(r, n)), 2, head)
	}
	made := frame(t, "abc")
	for range 20000 {
		if pattern := r.Uint32(); pattern != 0 {
			checkNothing(t, turned(made, 16, pattern))
		}
	}
}

func TestTurnedBitsOfWhatIsFramed(t *testing.T) {
	r := rand.New(rand.NewSource(10))
	for _, n := range []int{1, 2, 3, 4, 5, 8, 9, 33, 60} {
		checkTurned(t, r, frame(t, someText(r, n)), head, head+n)
	}
	checkTurned(t, r, frame(t, strings.Repeat("\x00", 12)), head, head+12)
}

func TestTurnedBitsOfTheLongestFrame(t *testing.T) {
	r := rand.New(rand.NewSource(11))
	made := frame(t, someText(r, most))
	for range 10000 {
		at := 8*head + r.Intn(8*(most-4)+1)
		if pattern := r.Uint32(); pattern != 0 {
			checkFirst(t, turned(made, at, pattern), "", "", api.ErrSum)
		}
	}
}

// R1 and R3

func TestArgumentsStayAndListsAreNew(t *testing.T) {
	row := rowOf(t, []string{"abc", "", "d"})
	kept := strings.Clone(row)
	first, n := check.All(row)
	first[0], first[2] = "z", "z"
	_ = append(first[:1], "y")
	checkAll(t, row, []string{"abc", "", "d"}, n)
	if row != kept {
		t.Error("what was handed in is another one")
	}
}

func TestLongTexts(t *testing.T) {
	long := strings.Repeat("\x00\x00\x41\xd9\x12\xff", 200000)
	l, n := check.All(long)
	if len(l) != 200000 || n != len(long) || strings.Join(l, "") != "" {
		t.Errorf("%d empty frames of %d bytes", len(l), n)
	}
	checkFirst(t, long, "", long[head:], api.OK)
	checkFirst(t, strings.Repeat("x", 1<<22), "", "", api.ErrCap)
}

// R5

func TestAnswersAreTheSame(t *testing.T) {
	r := rand.New(rand.NewSource(12))
	var l []string
	for range 40 {
		l = append(l, someText(r, r.Intn(100)))
	}
	row := rowOf(t, l)
	want := check.Sum(row)
	var wait sync.WaitGroup
	for range 8 {
		wait.Go(func() {
			for range 20 {
				got, n := check.All(row)
				framed, rest, e := check.First(row)
				if !slices.Equal(got, l) || n != len(row) || framed != l[0] || len(rest) != n-head-len(l[0]) || e != api.OK || check.Sum(row) != want {
					t.Errorf("%d frames of %d bytes, %d bytes first, error %d", len(got), n, len(framed), e)
				}
			}
		})
	}
	wait.Wait()
}

func BenchmarkSum(b *testing.B) {
	s := strings.Repeat("x", most)
	for b.Loop() {
		check.Sum(s)
	}
}

func BenchmarkSumOfNothing(b *testing.B) {
	for b.Loop() {
		check.Sum("")
	}
}
