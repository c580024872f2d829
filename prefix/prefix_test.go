package prefix_test

import (
	"fmt"
	"math"
	"math/rand"
	"slices"
	"strings"
	"sync"
	"testing"

	"hanaper/api"
	"hanaper/bitio"
	"hanaper/prefix"
)

const (
	most     = 300 // symbols of a code
	heaviest = 1 << 20
	widest   = 15 // bits of a word
	whole    = 1 << widest
)

// grove is a tree as the symbols that stand in it.
type grove struct {
	weight  int
	symbols []int
}

// wantLengths keeps all trees in one list, in the order in which they came to be there.
func wantLengths(freq []int, limit int) []int {
	for {
		lengths := plainLengths(freq)
		if slices.Max(append([]int{0}, lengths...)) <= limit {
			return lengths
		}
		half := make([]int, len(freq))
		for i, n := range freq {
			if n > 0 {
				half[i] = (n + 1) / 2
			}
		}
		freq = half
	}
}

func plainLengths(freq []int) []int {
	lengths := make([]int, len(freq))
	var there []grove
	for i, n := range freq {
		if n > 0 {
			there = append(there, grove{n, []int{i}})
		}
	}
	if len(there) == 1 {
		lengths[there[0].symbols[0]] = 1
	}
	for len(there) > 1 {
		var left, right grove
		left, there = withoutLightest(there)
		right, there = withoutLightest(there)
		both := grove{left.weight + right.weight, append(slices.Clone(left.symbols), right.symbols...)}
		for _, i := range both.symbols {
			lengths[i]++
		}
		there = append(there, both)
	}
	return lengths
}

func withoutLightest(l []grove) (grove, []grove) {
	at := 0
	for i := range l {
		if l[i].weight < l[at].weight {
			at = i
		}
	}
	lightest := l[at]
	return lightest, slices.Delete(l, at, at+1)
}

// wantWords are the words as rows of digits, the first bit first.
func wantWords(lengths []int) []string {
	words := make([]string, len(lengths))
	ahead := ""
	for length := 1; length <= widest; length++ {
		for i, n := range lengths {
			if n != length {
				continue
			}
			if ahead != "" {
				ahead = plusOne(ahead)
			}
			ahead += strings.Repeat("0", length-len(ahead))
			words[i] = ahead
		}
	}
	return words
}

// plusOne is the next number in digits of as many places.
func plusOne(digits string) string {
	at := strings.LastIndexByte(digits, '0')
	return digits[:at] + "1" + strings.Repeat("0", len(digits)-at-1)
}

func pieceOf(word string) bitio.Piece {
	p := bitio.Piece{Width: len(word)}
	for i, digit := range word {
		if digit == '1' {
			p.N += 1 << i
		}
	}
	return p
}

func wantPieces(lengths []int) []bitio.Piece {
	l := make([]bitio.Piece, len(lengths))
	for i, word := range wantWords(lengths) {
		l[i] = pieceOf(word)
	}
	return l
}

// wantNext reads the digits ahead of it: the symbol, the error, and how many digits were taken.
func wantNext(digits string, lengths []int) (int, api.Errno, int) {
	words := wantWords(lengths)
	for n := 1; n <= len(digits); n++ {
		if i := slices.Index(words, digits[:n]); i >= 0 {
			return i, api.OK, n
		}
		if !slices.ContainsFunc(words, func(w string) bool { return strings.HasPrefix(w, digits[:n]) }) {
			return 0, api.ErrCode, n
		}
	}
	return 0, api.ErrShort, len(digits)
}

func digitsOf(s string) string {
	var b strings.Builder
	for _, c := range []byte(s) {
		for i := range 8 {
			b.WriteByte('0' + c>>i&1)
		}
	}
	return b.String()
}

func someText(r *rand.Rand, n int) string {
	b := make([]byte, n)
	r.Read(b)
	return string(b)
}

// someFreq has n symbols that come, of about so many bits, and others that don't come among them.
func someFreq(r *rand.Rand, n, bits int) []int {
	l := make([]int, n, most)
	for i := range l {
		l[i] = 1 + r.Intn(1<<(r.Intn(bits+1)))
	}
	for range r.Intn(most - n + 1) {
		l = append(l, 0)
	}
	r.Shuffle(len(l), func(i, j int) { l[i], l[j] = l[j], l[i] })
	return l
}

// someCode are the lengths of a whole code of n words, and of zeros among them, split at random.
func someCode(r *rand.Rand, n int) []int {
	l := []int{1, 1}
	for len(l) < n {
		i := r.Intn(len(l))
		if r.Intn(2) == 0 {
			i = len(l) - 1 // deep ones too
		}
		if l[i] == widest {
			i = slices.Index(l, slices.Min(l))
		}
		l[i]++
		l = append(l, l[i])
	}
	l = append(l, make([]int, r.Intn(most-n+1))...)
	r.Shuffle(len(l), func(i, j int) { l[i], l[j] = l[j], l[i] })
	return l
}

// steps are 1, 2, 3 .. n, n: the code with one word of each length, and two of the last.
func steps(n int) []int {
	l := []int{n}
	for i := n; i > 0; i-- {
		l = append(l, i)
	}
	slices.Sort(l)
	return l
}

func fibonacci(n int) []int {
	l := []int{1, 1}
	for len(l) < n {
		l = append(l, l[len(l)-1]+l[len(l)-2])
	}
	return l[:n]
}

func checkLengths(t *testing.T, freq []int, limit int) []int {
	t.Helper()
	got, e := prefix.Lengths(freq, limit)
	if want := wantLengths(freq, limit); !slices.Equal(got, want) || e != api.OK {
		t.Fatalf("Lengths(%v, %d) = %v, %d, want %v", freq, limit, got, e, want)
	}
	return got
}

func checkNoLengths(t *testing.T, freq []int, limit int) {
	t.Helper()
	if got, e := prefix.Lengths(freq, limit); len(got) != 0 || e != api.ErrArg {
		t.Errorf("Lengths(%v, %d) = %v, %d", freq, limit, got, e)
	}
}

func checkCodes(t *testing.T, lengths []int) []bitio.Piece {
	t.Helper()
	got, e := prefix.Codes(lengths)
	if want := wantPieces(lengths); !slices.Equal(got, want) || e != api.OK {
		t.Fatalf("Codes(%v) = %v, %d, want %v", lengths, got, e, want)
	}
	return got
}

// checkNoCode also sees that nothing is taken off a reader.
func checkNoCode(t *testing.T, lengths []int) {
	t.Helper()
	if got, e := prefix.Codes(lengths); len(got) != 0 || e != api.ErrCode {
		t.Errorf("Codes(%v) = %v, %d", lengths, got, e)
	}
	for _, s := range []string{"", "\x00", "\xff", "\x00\x00\x00"} {
		r := bitio.New(s)
		if n, e := prefix.Next(r, lengths); n != 0 || e != api.ErrCode || r.Left() != 8*len(s) {
			t.Errorf("Next of %x by %v = %d, %d, with %d bits left", s, lengths, n, e, r.Left())
		}
	}
}

// checkNext reads the text till there is an error.
func checkNext(t *testing.T, s string, lengths []int) {
	t.Helper()
	r := bitio.New(s)
	for digits := digitsOf(s); ; {
		want, wantE, taken := wantNext(digits, lengths)
		digits = digits[taken:]
		got, e := prefix.Next(r, lengths)
		if got != want || e != wantE || r.Left() != len(digits) {
			t.Fatalf("Next of %x by %v = %d, %d, with %d bits left, want %d, %d, %d", s, lengths, got, e, r.Left(), want, wantE, len(digits))
		}
		if e == api.ErrShort {
			return
		}
	}
}

// P7.1

func TestLengthsKnown(t *testing.T) {
	for _, c := range []struct {
		freq  []int
		limit int
		want  []int
	}{
		{nil, 1, nil},
		{[]int{}, 15, nil},
		{[]int{0}, 1, []int{0}},
		{[]int{0, 0, 0}, 15, []int{0, 0, 0}},
		{[]int{1}, 1, []int{1}},
		{[]int{heaviest}, 15, []int{1}},
		{[]int{0, 0, 5, 0}, 1, []int{0, 0, 1, 0}},
		{[]int{1, 1}, 1, []int{1, 1}},
		{[]int{1, heaviest}, 1, []int{1, 1}},
		{[]int{3, 0, 2}, 15, []int{1, 0, 1}},
		{[]int{1, 1, 2}, 15, []int{2, 2, 1}},
		{[]int{2, 1, 1}, 15, []int{1, 2, 2}},
		// Of those that weigh the same the earlier one goes.
		{[]int{1, 1, 1}, 2, []int{2, 2, 1}},
		{[]int{5, 5, 5}, 15, []int{2, 2, 1}},
		{[]int{2, 1, 2, 2}, 15, []int{2, 2, 2, 2}},
		{[]int{1, 1, 1, 1, 1}, 15, []int{3, 3, 2, 2, 2}},
		{[]int{1, 1, 1, 1, 1, 1}, 15, []int{3, 3, 3, 3, 2, 2}},
		// A symbol was there earlier than a pair.
		{[]int{1, 1, 2, 2}, 15, []int{2, 2, 2, 2}},
		{[]int{2, 2, 1, 1}, 15, []int{2, 2, 2, 2}},
		{[]int{1, 1, 2, 3, 3}, 15, []int{3, 3, 2, 2, 2}},
		{[]int{1, 2, 3, 3, 4, 5}, 15, []int{3, 3, 3, 3, 2, 2}},
		{[]int{1, 1, 2, 4, 8}, 15, []int{4, 4, 3, 2, 1}},
		{[]int{1, 1, 2, 4, 8}, 4, []int{4, 4, 3, 2, 1}},
		// One above the limit: once more, with halves.
		{[]int{1, 1, 2, 4}, 2, []int{2, 2, 2, 2}},
		{[]int{1, 1, 2, 4, 8}, 3, []int{3, 3, 3, 3, 1}},
		{[]int{8, 4, 0, 2, 1, 1}, 3, []int{1, 3, 0, 3, 3, 3}},
		{[]int{1, 1, 2, 4, 8, 16, 32, 64}, 3, []int{3, 3, 3, 3, 3, 3, 3, 3}},
	} {
		if got, e := prefix.Lengths(c.freq, c.limit); !slices.Equal(got, c.want) || e != api.OK {
			t.Errorf("Lengths(%v, %d) = %v, %d, want %v", c.freq, c.limit, got, e, c.want)
		}
	}
}

// TestLengthsOfFewSymbols goes through all small freqs, so through each way in which weights may be the same.
func TestLengthsOfFewSymbols(t *testing.T) {
	for symbols := range 6 {
		freq := make([]int, symbols)
		for more := true; more; more = nextOf(freq, 6) {
			for _, limit := range []int{3, 4, widest} {
				checkLengths(t, freq, limit)
			}
		}
	}
}

// nextOf counts the row on, each number below end, till all are 0 again.
func nextOf(l []int, end int) bool {
	for i := range l {
		l[i]++
		if l[i] < end {
			return true
		}
		l[i] = 0
	}
	return false
}

func TestLengthsOfManySymbols(t *testing.T) {
	r := rand.New(rand.NewSource(1))
	for n := range most + 1 {
		least := 1
		for n > 1<<least {
			least++
		}
		for _, bits := range []int{0, 1 + r.Intn(10), 20} {
			freq := someFreq(r, n, bits)
			for _, limit := range []int{least, least + r.Intn(widest-least+1), widest} {
				if n < 30 || r.Intn(10) == 0 {
					checkLengths(t, freq, limit)
				}
			}
		}
	}
}

// A tree that is as deep as can be is made again and again.
func TestLengthsOfDeepTrees(t *testing.T) {
	for n := 2; n <= 30; n++ {
		freq := fibonacci(n)
		turned := slices.Clone(freq)
		slices.Reverse(turned)
		for limit := 1; limit <= widest; limit++ {
			if n <= 1<<limit {
				checkLengths(t, freq, limit)
				checkLengths(t, turned, limit)
			}
		}
	}
	doubled := make([]int, 21)
	for i := range doubled {
		doubled[i] = 1 << i
	}
	for limit := 5; limit <= widest; limit++ {
		checkLengths(t, doubled, limit)
	}
}

// As many symbols as there are words of the limit's length: all of them have it.
func TestLengthsOfAsManyAsThereMayBe(t *testing.T) {
	for limit := 1; limit <= 8; limit++ {
		freq := make([]int, 1<<limit)
		for i := range freq {
			freq[i] = 1 << (i % 21)
		}
		checkSame := func(freq []int) {
			got := checkLengths(t, freq, limit)
			for i, n := range got {
				if freq[i] > 0 && n != limit || freq[i] == 0 && n != 0 {
					t.Errorf("limit %d: %v", limit, got)
				}
			}
		}
		checkSame(freq)
		checkSame(append(freq, make([]int, most-len(freq))...))
		checkNoLengths(t, append([]int{1}, freq...), limit)
		checkNoLengths(t, append(slices.Clone(freq), heaviest), limit)
		checkNoLengths(t, append(append(slices.Clone(freq), 0), 1), limit)
	}
	checkLengths(t, slices.Repeat([]int{1}, most), 9)
	checkLengths(t, slices.Repeat([]int{heaviest}, most), widest)
	checkNoLengths(t, slices.Repeat([]int{1}, 257), 8)
}

func TestLengthsOfWrongArguments(t *testing.T) {
	for _, n := range []int{-1, -2, math.MinInt, math.MinInt32, heaviest + 1, 2 * heaviest, math.MaxInt32, math.MaxInt} {
		for _, l := range [][]int{nil, {0}, {1}, {1, 1, 2}, make([]int, most-1)} {
			for at := range len(l) + 1 {
				checkNoLengths(t, slices.Insert(slices.Clone(l), at, n), widest)
			}
		}
	}
	for _, limit := range []int{0, -1, -2, -15, -64, math.MinInt, 16, 17, 31, 32, 63, 64, 65, 1 << 32, 1<<32 + 1, math.MaxInt} {
		for _, l := range [][]int{nil, {0}, {1}, {1, 1, 2}, make([]int, most), {-1}} {
			checkNoLengths(t, l, limit)
		}
	}
	for _, n := range []int{most + 1, most + 2, 512, 1 << 15, 1<<15 + 1} {
		checkNoLengths(t, make([]int, n), widest)
		checkNoLengths(t, slices.Repeat([]int{1}, n), widest)
	}
	checkLengths(t, make([]int, most), 1)
	checkLengths(t, append([]int{heaviest, heaviest}, make([]int, most-2)...), 1)
}

// P7.2

func TestKraft(t *testing.T) {
	for _, c := range []struct {
		lengths []int
		want    int
	}{
		{nil, 0},
		{[]int{}, 0},
		{[]int{0}, 0},
		{[]int{0, 0}, 0},
		{[]int{1}, 16384},
		{[]int{1, 1}, whole},
		{[]int{15}, 1},
		{[]int{14}, 2},
		{[]int{16}, 0},
		{[]int{-1}, 0},
		{[]int{1, 1, 1}, 49152},
		{[]int{2, 1, 0, 3, 3}, whole},
		{[]int{1, 15, 0, 16, -1}, 16385},
		{[]int{math.MinInt, math.MaxInt, -15, 17, 31, 64, 65, 7}, 256},
		{slices.Repeat([]int{1}, 1000), 16384000},
		{slices.Repeat([]int{15}, whole), whole},
		{slices.Repeat([]int{8}, 256), whole},
	} {
		if got := prefix.Kraft(c.lengths); got != c.want {
			t.Errorf("Kraft(%v) = %d, want %d", c.lengths, got, c.want)
		}
	}
	for n := 1; n <= widest; n++ {
		if got, want := prefix.Kraft([]int{n}), int(math.Pow(2, float64(15-n))); got != want {
			t.Errorf("Kraft of %d = %d", n, got)
		}
		if got := prefix.Kraft(steps(n)); got != whole {
			t.Errorf("Kraft(%v) = %d", steps(n), got)
		}
	}
}

func TestKraftOfManyLengths(t *testing.T) {
	r := rand.New(rand.NewSource(2))
	for n := range 700 {
		l := make([]int, n)
		want := 0.0
		for i := range l {
			l[i] = r.Intn(24) - 4
			if l[i] >= 1 && l[i] <= 15 {
				want += math.Ldexp(1, 15-l[i])
			}
		}
		if got := prefix.Kraft(l); float64(got) != want {
			t.Fatalf("Kraft(%v) = %d, want %f", l, got, want)
		}
	}
}

// P7.3

func TestCodesKnown(t *testing.T) {
	for _, c := range []struct {
		lengths []int
		words   []string
	}{
		{[]int{1}, []string{"0"}},
		{[]int{0, 1}, []string{"", "0"}},
		{[]int{0, 1, 0, 0}, []string{"", "0", "", ""}},
		{[]int{1, 1}, []string{"0", "1"}},
		{[]int{2, 1, 0, 3, 3}, []string{"10", "0", "", "110", "111"}},
		{[]int{2, 2, 1}, []string{"10", "11", "0"}},
		{[]int{2, 2, 2, 2}, []string{"00", "01", "10", "11"}},
		{[]int{3, 3, 3, 3, 1}, []string{"100", "101", "110", "111", "0"}},
		{[]int{3, 1, 3, 3, 3}, []string{"100", "0", "101", "110", "111"}},
		{[]int{4, 2, 4, 2, 2, 4, 4}, []string{"1100", "00", "1101", "01", "10", "1110", "1111"}},
		{[]int{2, 2, 2, 5, 5, 4, 4, 4}, []string{"00", "01", "10", "11110", "11111", "1100", "1101", "1110"}},
	} {
		want := make([]bitio.Piece, len(c.words))
		for i, word := range c.words {
			want[i] = pieceOf(word)
		}
		if got, e := prefix.Codes(c.lengths); !slices.Equal(got, want) || e != api.OK {
			t.Errorf("Codes(%v) = %v, %d, want %v", c.lengths, got, e, want)
		}
	}
	got, e := prefix.Codes([]int{3, 1, 3, 3, 3, 0})
	want := []bitio.Piece{{N: 1, Width: 3}, {N: 0, Width: 1}, {N: 5, Width: 3}, {N: 3, Width: 3}, {N: 7, Width: 3}, {}}
	if !slices.Equal(got, want) || e != api.OK {
		t.Errorf("Codes = %v, %d, want %v", got, e, want)
	}
}

func TestCodesOfAllFewLengths(t *testing.T) {
	for symbols := range 6 {
		lengths := make([]int, symbols)
		for more := true; more; more = nextOf(lengths, 6) {
			used := slices.DeleteFunc(slices.Clone(lengths), func(n int) bool { return n == 0 })
			sum := 0.0
			for _, n := range used {
				sum += math.Ldexp(1, -n)
			}
			if sum == 1 || slices.Equal(used, []int{1}) {
				checkCodes(t, lengths)
			} else {
				checkNoCode(t, lengths)
			}
		}
	}
}

func TestCodesOfManyLengths(t *testing.T) {
	r := rand.New(rand.NewSource(3))
	for n := 2; n <= most; n++ {
		lengths := someCode(r, n)
		checkCodes(t, lengths)
		slices.Sort(lengths)
		checkCodes(t, lengths)
		slices.Reverse(lengths)
		checkCodes(t, lengths)
	}
	for n := 1; n <= widest; n++ {
		l := steps(n)
		checkCodes(t, l)
		slices.Reverse(l)
		checkCodes(t, l)
	}
	for n := 1; n <= 8; n++ {
		checkCodes(t, slices.Repeat([]int{n}, 1<<n))
	}
}

// A single word is one of one bit, wherever it stands.
func TestCodesOfASingleWord(t *testing.T) {
	for _, symbols := range []int{1, 2, 3, 289, most} {
		for at := range symbols {
			lengths := make([]int, symbols)
			lengths[at] = 1
			checkCodes(t, lengths)
			for n := 2; n <= widest+1; n++ {
				lengths[at] = n
				checkNoCode(t, lengths)
			}
		}
	}
}

func TestCodesOfLengthsThatAreNone(t *testing.T) {
	for _, l := range [][]int{nil, {}, {0}, {0, 0}, make([]int, most), {2}, {15}, {1, 2}, {2, 2}, {2, 2, 2}, {1, 1, 1}, {1, 1, 15}, {1, 0, 15}, {2, 1, 0, 3}, {2, 1, 3, 3, 3}, {1, 1, 1, 1}} {
		checkNoCode(t, l)
	}
	for _, n := range []int{-1, -2, -15, -16, -64, math.MinInt, 16, 17, 30, 31, 32, 64, 65, math.MaxInt} {
		for _, l := range [][]int{nil, {0}, {1}, {1, 1}, {2, 1, 2}, make([]int, most-1), steps(widest)} {
			for at := range len(l) + 1 {
				checkNoCode(t, slices.Insert(slices.Clone(l), at, n))
			}
		}
	}
	zeros := make([]int, most)
	for _, l := range [][]int{{1}, {1, 1}, {2, 1, 2}, steps(widest)} {
		checkCodes(t, append(slices.Clone(l), zeros[len(l):]...))
		checkCodes(t, append(slices.Clone(zeros[len(l):]), l...))
		checkNoCode(t, append(slices.Clone(l), zeros[len(l)-1:]...))
		checkNoCode(t, append(slices.Clone(zeros[len(l)-1:]), l...))
	}
	checkNoCode(t, append(slices.Repeat([]int{8}, 256), zeros...))
	checkNoCode(t, slices.Repeat([]int{9}, 512))
	checkCodes(t, append(slices.Repeat([]int{8}, 212), slices.Repeat([]int{9}, 88)...))
}

// A whole code is none with a word more, a word less, or a word that is longer or shorter.
func TestCodesOfLengthsThatAreAlmostOne(t *testing.T) {
	r := rand.New(rand.NewSource(4))
	for n := 3; n <= 200; n += 7 {
		lengths := someCode(r, n)
		for at, length := range lengths {
			if length == 0 {
				continue
			}
			for _, other := range []int{0, length - 1, length + 1} {
				lengths[at] = other
				checkNoCode(t, lengths)
			}
			lengths[at] = length
		}
		checkNoCode(t, append([]int{1 + r.Intn(widest)}, lengths...))
	}
}

// P7.4

func TestNextKnown(t *testing.T) {
	lengths := []int{2, 1, 0, 3, 3}
	p := checkCodes(t, lengths)
	s, _ := bitio.Pack([]bitio.Piece{p[3], p[1], p[4], p[0], p[1], p[0], p[4], p[3]})
	r := bitio.New(s)
	for i, want := range []int{3, 1, 4, 0, 1, 0, 4, 3} {
		if got, e := prefix.Next(r, lengths); got != want || e != api.OK {
			t.Errorf("%d: Next = %d, %d, want %d", i, got, e, want)
		}
	}
	if r.Left() != 6 {
		t.Errorf("%d bits left", r.Left())
	}
}

func TestNextThatEndsTooEarly(t *testing.T) {
	checkShort := func(r *bitio.Reader, lengths []int) {
		t.Helper()
		for range 3 {
			if n, e := prefix.Next(r, lengths); n != 0 || e != api.ErrShort || r.Left() != 0 {
				t.Errorf("Next by %v = %d, %d, with %d bits left", lengths, n, e, r.Left())
			}
		}
	}
	for _, lengths := range [][]int{{1}, {1, 1}, {2, 1, 2}, steps(widest), slices.Repeat([]int{8}, 256)} {
		checkShort(bitio.New(""), lengths)
	}
	for taken := range 8 {
		for n := 9 - taken; n <= widest; n++ {
			r := bitio.New("\xff")
			r.Take(taken)
			checkShort(r, steps(n))
		}
	}
	for taken := 1; taken < 8; taken++ {
		r := bitio.New("\x00")
		r.Take(taken)
		checkShort(r, slices.Repeat([]int{8}, 256))
	}
}

// A bit 1 is no word of a single one, and the next bit may be.
func TestNextOfASingleWord(t *testing.T) {
	for _, lengths := range [][]int{{1}, {0, 1}, {1, 0}, {0, 0, 0, 1, 0}, append(make([]int, most-1), 1)} {
		symbol := slices.Index(lengths, 1)
		r := bitio.New("\x2c")
		for i, digit := range "00110100" {
			got, e := prefix.Next(r, lengths)
			if digit == '0' && (got != symbol || e != api.OK) || digit == '1' && (got != 0 || e != api.ErrCode) {
				t.Errorf("Next by %v = %d, %d at bit %d", lengths, got, e, i)
			}
			if r.Left() != 7-i {
				t.Errorf("Next by %v left %d bits at bit %d", lengths, r.Left(), i)
			}
		}
		if n, e := prefix.Next(r, lengths); n != 0 || e != api.ErrShort {
			t.Errorf("Next by %v = %d, %d behind the end", lengths, n, e)
		}
		for b := range 256 {
			checkNext(t, string([]byte{byte(b)}), lengths)
		}
	}
}

func TestNextOfManyTexts(t *testing.T) {
	r := rand.New(rand.NewSource(5))
	for n := 2; n <= most; n += 3 {
		lengths := someCode(r, n)
		checkNext(t, someText(r, 1+r.Intn(20)), lengths)
	}
	for n := 1; n <= widest; n++ {
		checkNext(t, strings.Repeat("\xff", 16)+someText(r, 40), steps(n))
		checkNext(t, someText(r, 8)+"\xff", steps(n))
	}
	for a := range 256 {
		checkNext(t, string([]byte{byte(a)}), []int{2, 1, 0, 3, 3})
		checkNext(t, string([]byte{byte(a), byte(a >> 3)}), []int{0, 3, 3, 3, 3, 3, 3, 3, 4, 4, 0})
	}
}

// The reader may stand anywhere, and the code may be another one each time.
func TestNextByOtherCodes(t *testing.T) {
	r := rand.New(rand.NewSource(6))
	for range 300 {
		s := someText(r, 12)
		digits := digitsOf(s)
		taken := r.Intn(20)
		q := bitio.New(s)
		q.Take(taken)
		digits = digits[taken:]
		for range 20 {
			lengths := someCode(r, 2+r.Intn(60))
			want, wantE, n := wantNext(digits, lengths)
			digits = digits[n:]
			if got, e := prefix.Next(q, lengths); got != want || e != wantE || q.Left() != len(digits) {
				t.Fatalf("Next = %d, %d, want %d, %d", got, e, want, wantE)
			}
			checkNoCode(t, lengths[:0])
		}
	}
}

// P7.5

// With a symbol that comes there is a code of the lengths, of the symbols that come alone.
func TestLengthsMakeACode(t *testing.T) {
	r := rand.New(rand.NewSource(7))
	for range 1500 {
		n := 1 + r.Intn(most)
		limit := 1 + r.Intn(widest)
		n = min(n, 1<<limit)
		freq := someFreq(r, n, r.Intn(21))
		lengths, e := prefix.Lengths(freq, limit)
		if e != api.OK || len(lengths) != len(freq) {
			t.Fatalf("Lengths(%v, %d) = %v, %d", freq, limit, lengths, e)
		}
		for i := range freq {
			if (freq[i] > 0) != (lengths[i] > 0) || lengths[i] > limit {
				t.Fatalf("Lengths(%v, %d) = %v", freq, limit, lengths)
			}
		}
		words := checkCodes(t, lengths)
		checkApart(t, words)
		checkReads(t, r, lengths, words)
	}
}

// checkApart sees that no word begins with another one.
func checkApart(t *testing.T, words []bitio.Piece) {
	t.Helper()
	begun := map[bitio.Piece]bool{}
	for _, p := range words {
		for n := 1; n < p.Width; n++ {
			begun[bitio.Piece{N: p.N & (1<<n - 1), Width: n}] = true
		}
	}
	seen := map[bitio.Piece]bool{}
	for i, p := range words {
		if p.Width > 0 && (begun[p] || seen[p]) {
			t.Fatalf("word %d of %v stands in another one", i, words)
		}
		seen[p] = true
	}
}

// checkReads packs some symbols, and reads them.
func checkReads(t *testing.T, r *rand.Rand, lengths []int, words []bitio.Piece) {
	t.Helper()
	var symbols []int
	for i, n := range lengths {
		if n > 0 {
			symbols = append(symbols, i)
		}
	}
	for range 50 {
		symbols = append(symbols, symbols[r.Intn(len(symbols))])
	}
	r.Shuffle(len(symbols), func(i, j int) { symbols[i], symbols[j] = symbols[j], symbols[i] })
	var l []bitio.Piece
	for _, i := range symbols {
		l = append(l, words[i])
	}
	s, e := bitio.Pack(l)
	if e != api.OK {
		t.Fatalf("Pack: %d", e)
	}
	q := bitio.New(s)
	for _, want := range symbols {
		if got, e := prefix.Next(q, lengths); got != want || e != api.OK {
			t.Fatalf("Next by %v = %d, %d, want %d", lengths, got, e, want)
		}
	}
	if e := q.End(); e != api.OK {
		t.Fatalf("End = %d, with %d bits left", e, q.Left())
	}
}

// No code of few symbols packs them in fewer bits.
func TestLengthsAreTheBest(t *testing.T) {
	r := rand.New(rand.NewSource(8))
	for range 400 {
		freq := make([]int, 2+r.Intn(4))
		for i := range freq {
			freq[i] = 1 + r.Intn(30)
		}
		lengths := checkLengths(t, freq, widest)
		got, best := bitsBy(freq, lengths), math.MaxInt
		other := make([]int, len(freq))
		for more := true; more; more = nextOf(other, 5) {
			if !slices.Contains(other, 0) && prefix.Kraft(other) <= whole {
				best = min(best, bitsBy(freq, other))
			}
		}
		if got != best {
			t.Fatalf("Lengths(%v) = %v: %d bits, not %d", freq, lengths, got, best)
		}
	}
}

func bitsBy(freq, lengths []int) int {
	sum := 0
	for i := range freq {
		sum += freq[i] * lengths[i]
	}
	return sum
}

// R3 and R5

func TestArgumentsStay(t *testing.T) {
	behind := []int{64, 1, 1, 2, 4, 8, 16, 7, 7, 7}
	freq := behind[1:7]
	lengths, _ := prefix.Lengths(freq, 3)
	if !slices.Equal(behind, []int{64, 1, 1, 2, 4, 8, 16, 7, 7, 7}) {
		t.Errorf("Lengths changed freq: %v", behind)
	}
	clear(lengths)
	if again, _ := prefix.Lengths(freq, 3); !slices.Equal(again, wantLengths(freq, 3)) {
		t.Errorf("Lengths = %v", again)
	}
	behind = []int{9, 2, 1, 0, 3, 3, 9, 9, 9}
	code := behind[1:6]
	words, _ := prefix.Codes(code)
	prefix.Kraft(code)
	prefix.Next(bitio.New("\x3d\x02"), code)
	if !slices.Equal(behind, []int{9, 2, 1, 0, 3, 3, 9, 9, 9}) {
		t.Errorf("lengths were changed: %v", behind)
	}
	clear(words)
	if again, _ := prefix.Codes(code); !slices.Equal(again, wantPieces(code)) {
		t.Errorf("Codes = %v", again)
	}
	// What was handed in isn't kept.
	words, _ = prefix.Codes(code)
	want := slices.Clone(words)
	clear(code)
	if !slices.Equal(words, want) {
		t.Errorf("Codes' answer changed to %v", words)
	}
	one := []int{0, 1}
	lengths, _ = prefix.Lengths(one, 1)
	one[1] = 5
	if !slices.Equal(lengths, []int{0, 1}) {
		t.Errorf("Lengths' answer changed to %v", lengths)
	}
}

func TestAnswersAreTheSame(t *testing.T) {
	var all sync.WaitGroup
	answers := make([]string, 8)
	for i := range answers {
		all.Go(func() { answers[i] = answersOf(rand.New(rand.NewSource(9))) })
	}
	all.Wait()
	for _, a := range answers {
		if a != answers[0] {
			t.Error("other answers")
		}
	}
}

func answersOf(r *rand.Rand) string {
	var b strings.Builder
	for range 50 {
		lengths, e := prefix.Lengths(someFreq(r, 1+r.Intn(40), 20), 6)
		words, f := prefix.Codes(lengths)
		symbol, g := prefix.Next(bitio.New(someText(r, 2)), lengths)
		fmt.Fprintln(&b, lengths, e, words, f, symbol, g, prefix.Kraft(lengths))
	}
	return b.String()
}

func BenchmarkLengths(b *testing.B) {
	freq := someFreq(rand.New(rand.NewSource(10)), most, 20)
	for b.Loop() {
		prefix.Lengths(freq, 9)
	}
}

func BenchmarkNext(b *testing.B) {
	lengths := someCode(rand.New(rand.NewSource(11)), 289)
	s := strings.Repeat("\x5a", 100)
	r := bitio.New(s)
	for b.Loop() {
		if r.Left() < 16 {
			r = bitio.New(s)
		}
		prefix.Next(r, lengths)
	}
}
