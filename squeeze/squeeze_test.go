package squeeze_test

import (
	"encoding/hex"
	"math"
	"math/rand"
	"slices"
	"strings"
	"sync"
	"testing"

	"hanaper/api"
	"hanaper/bitio"
	"hanaper/squeeze"
	"hanaper/window"
)

// known was made by a program in another language.
var known = []struct{ s, squeezed string }{
	{"", "014006"},
	{"a", "02c204c810"},
	{"ab", "03c2881801190d"},
	{"aaaa", "03c2084001190d00"},
	{"abcabcabc", "05c28c9819230305a4ec2820"},
	{"\x00\xff\x00\xff\x01", "04004800f9272085c801"},
	{strings.Repeat("the cat sat on the mat. ", 2), "10408c8b0a4363aa4ca1a936e486ded01ca23300292009a4880492f81fae109103dc500e54781ac15c58"},
	{strings.Repeat("x", 4096), "04f00cc3f9182065" + strings.Repeat("00", 150) + "0710"},
}

// someText is the more like itself the fewer letters it has, and the more often it goes on with bytes from farther ahead.
func someText(r *rand.Rand, n, letters, copies int) string {
	b := make([]byte, 0, n+64)
	for len(b) < n {
		if len(b) > 0 && r.Intn(100) < copies {
			from := max(0, len(b)-1-r.Intn(540))
			for i := range 1 + r.Intn(50) {
				b = append(b, b[from+i])
			}
			continue
		}
		b = append(b, byte(r.Intn(letters)))
	}
	return string(b[:n])
}

// everyByte has all bytes, each as often as others, so that all words have much the same length.
func everyByte() string {
	b := make([]byte, 256)
	for i := range b {
		b[i] = byte(i)
	}
	return string(b)
}

// allMatches has a match of each length.
func allMatches() string {
	run := everyByte()[:34]
	s := run
	for n := 3; n <= 34; n++ {
		s += string([]byte{byte(100 + n)}) + run[:n]
	}
	return s
}

func checkSqueeze(t *testing.T, s string) {
	t.Helper()
	made, e := squeeze.Squeeze(s)
	if want := wantSqueeze(s); made != want || e != api.OK {
		t.Errorf("Squeeze(%.60q of %d) = %x, %d, want %x", s, len(s), made, e, want)
	}
	checkExpand(t, made, len(s), s, api.OK)
}

func checkExpand(t *testing.T, made string, most int, want string, wantE api.Errno) {
	t.Helper()
	if s, e := squeeze.Expand(made, most); s != want || e != wantE {
		t.Errorf("Expand(%x, %d) = %.60q of %d, %d, want %.60q of %d, %d", made, most, s, len(s), e, want, len(want), wantE)
	}
}

// checkDigits fills up with digits 0.
func checkDigits(t *testing.T, digits string, most int, want string, wantE api.Errno) {
	t.Helper()
	checkExpand(t, bytesOf(digits), most, want, wantE)
}

func checkFreq(t *testing.T, l []token) {
	t.Helper()
	if freq, want := squeeze.Freq(l), wantFreq(l); !slices.Equal(freq, want) {
		t.Errorf("Freq(%v) = %v, want %v", l, freq, want)
	}
}

// P9.1

func TestFreqOfNothing(t *testing.T) {
	for _, l := range [][]token{nil, {}} {
		freq := squeeze.Freq(l)
		if len(freq) != 289 || freq[288] != 1 || slices.Max(freq[:288]) != 0 || slices.Min(freq) != 0 {
			t.Errorf("Freq(%v) = %v", l, freq)
		}
	}
}

func TestFreqOfEachSymbol(t *testing.T) {
	for symbol := range 288 {
		x := token{C: byte(symbol)}
		if symbol > 255 {
			x = token{Len: symbol - 256 + 3, Back: symbol}
		}
		for n := range 4 {
			freq := squeeze.Freq(slices.Repeat([]token{x}, n))
			if len(freq) != 289 || freq[symbol] != n || freq[288] != 1 {
				t.Errorf("Freq of %d times %v = %v", n, x, freq)
			}
			checkFreq(t, slices.Repeat([]token{x}, n))
		}
	}
}

func TestFreqOfTokensThatMayNotBe(t *testing.T) {
	// Len alone tells what a token counts as, whatever its C and Back are.
	for _, c := range []byte{0, 1, 'a', 255} {
		for _, back := range []int{math.MinInt, -1, 0, 1, 512, 513, math.MaxInt} {
			for _, n := range []int{math.MinInt, -256, -253, -34, -3, -1, 0, 1, 2, 3, 4, 33, 34, 35, 36, 256, 288, 289, math.MaxInt} {
				checkFreq(t, []token{{C: 'z'}, {C: c, Len: n, Back: back}, {Len: 9, Back: 1}})
			}
		}
	}
}

func TestFreqOfRandomTokens(t *testing.T) {
	r := rand.New(rand.NewSource(91))
	for range 200 {
		var l []token
		for range r.Intn(300) {
			l = append(l, token{C: byte(r.Intn(5)), Len: r.Intn(2) * (r.Intn(40) - 2), Back: r.Intn(9)})
		}
		checkFreq(t, l)
	}
}

// P9.2

func TestSqueezeKnownTexts(t *testing.T) {
	for _, x := range known {
		made, e := squeeze.Squeeze(x.s)
		if got := hex.EncodeToString([]byte(made)); got != x.squeezed || e != api.OK {
			t.Errorf("Squeeze(%.60q) = %s, %d, want %s", x.s, got, e, x.squeezed)
		}
		checkExpand(t, made, len(x.s), x.s, api.OK)
	}
}

func TestSqueezePieceByPiece(t *testing.T) {
	// Each of the three symbols comes once: the end's word is 0, that of a is 10, and that of three bytes 11.
	want := packed(
		bitio.Piece{N: 3, Width: 9},
		bitio.Piece{N: 'a', Width: 9}, bitio.Piece{N: 2, Width: 4},
		bitio.Piece{N: 256, Width: 9}, bitio.Piece{N: 2, Width: 4},
		bitio.Piece{N: 288, Width: 9}, bitio.Piece{N: 1, Width: 4},
		bitio.Piece{N: 1, Width: 2},
		bitio.Piece{N: 3, Width: 2}, bitio.Piece{N: 0, Width: 9},
		bitio.Piece{N: 0, Width: 1},
	)
	if made, e := squeeze.Squeeze("aaaa"); made != want || e != api.OK {
		t.Errorf("Squeeze(aaaa) = %x, %d, want %x", made, e, want)
	}
}

func TestSqueezeNoMoreThanMayBe(t *testing.T) {
	r := rand.New(rand.NewSource(92))
	long := someText(r, 4100, 256, 0)
	for n := 4090; n <= 4096; n++ {
		checkSqueeze(t, long[:n])
		checkSqueeze(t, strings.Repeat("\x00", n))
	}
	for _, s := range []string{long[:4097], long[:4098], long, strings.Repeat("x", 4097), strings.Repeat("x", 100000)} {
		if made, e := squeeze.Squeeze(s); made != "" || e != api.ErrCap {
			t.Errorf("Squeeze of %d bytes = %x, %d", len(s), made, e)
		}
	}
}

func TestSqueezeEachByteAndMatch(t *testing.T) {
	for i := range 256 {
		checkSqueeze(t, string([]byte{byte(i)}))
		checkSqueeze(t, strings.Repeat(string([]byte{byte(i)}), 5))
	}
	checkSqueeze(t, everyByte())
	checkSqueeze(t, everyByte()+everyByte()+everyByte())
	checkSqueeze(t, allMatches())
	for n := range 80 {
		checkSqueeze(t, strings.Repeat("q", n))
	}
	// Back is told for one byte and for 512.
	for gap := 505; gap <= 512; gap++ {
		checkSqueeze(t, "abc"+someText(rand.New(rand.NewSource(int64(gap))), gap, 256, 0)+"abc")
	}
}

// P9.3

var (
	onlyEnd = head(1, pair{last, 1})
	// a is 0, the end is 1
	aAndEnd = head(2, pair{'a', 1}, pair{last, 1})
	// a is 0, three bytes are 10, the end is 11
	aThreeEnd = head(3, pair{'a', 1}, pair{256, 2}, pair{last, 2})
	// three bytes are 0, the end is 1
	threeAndEnd = head(2, pair{256, 1}, pair{last, 1})
)

func TestExpandWhatEndsTooEarly(t *testing.T) {
	// Of each the last bit is missing, or more; all cuts are ahead of a byte, so that nothing is filled up.
	for _, digits := range []string{
		number(0, 8), number(290, 8), number(511, 8), // not even how many symbols there are
		onlyEnd, aAndEnd, aAndEnd + "0000",
		head(289), head(255), head(1) + number(511, 9),
		head(2, pair{'a', 1}) + number(300, 9) + "0",  // a symbol that is none is told behind its length alone
		head(2, pair{'a', 1}) + number('a', 9) + "1",  // so is one that does not rise
		head(2, pair{'a', 1}) + number(last, 9) + "0", // as its length might be above 0 yet
		aThreeEnd + "010" + back(512)[:5],
		aThreeEnd + "010" + back(1) + "1",
	} {
		for n := 0; n <= len(digits); n += 8 {
			checkDigits(t, digits[:n], 99, "", api.ErrShort)
		}
	}
}

func TestExpandNumbersOfSymbols(t *testing.T) {
	for _, n := range []int{290, 291, 300, 510, 511} {
		checkDigits(t, head(n), 9, "", api.ErrCode)
		checkDigits(t, head(n, pair{'a', 1}, pair{last, 1})+"01", 9, "", api.ErrCode)
	}
	checkDigits(t, head(0), 9, "", api.ErrCode) // no words are no code
	checkDigits(t, head(0)+strings.Repeat("0", 90), 9, "", api.ErrCode)
	all := make([]pair, count)
	for symbol := range all {
		all[symbol] = pair{symbol, 8}
		if symbol >= count-2*(count-256) {
			all[symbol].length = 9
		}
	}
	words := wordsOf(lengthsOf(all))
	checkDigits(t, head(289, all...)+words[0]+words[255]+words[259]+back(2)+words[last], 8, "\x00\xff\x00\xff\x00\xff\x00\xff", api.OK)
	all[last].symbol = 289
	checkDigits(t, head(289, all...)+words[0]+words[last], 9, "", api.ErrCode)
	checkDigits(t, head(288, all[:last]...), 9, "", api.ErrCode)
}

// Each fault of a pair is told behind the pair, whatever does not stand there any more.
func TestExpandPairsThatMayNotBe(t *testing.T) {
	for _, x := range [][]pair{
		{{289, 1}}, {{290, 1}}, {{511, 15}}, {{last, 0}}, {{0, 0}}, {{'a', 0}},
		{{'a', 1}, {'a', 1}}, {{'b', 1}, {'a', 1}}, {{last, 1}, {'a', 1}}, {{last, 1}, {last, 1}}, {{last, 1}, {0, 1}}, {{1, 1}, {0, 1}}, {{0, 1}, {0, 1}},
		{{'a', 1}, {last, 0}}, {{'a', 1}, {289, 1}}, {{'a', 2}, {'b', 2}, {'b', 1}}, {{'a', 2}, {'c', 2}, {'b', 1}}, {{0, 2}, {1, 2}, {1, 2}, {last, 2}},
	} {
		for _, n := range []int{len(x), len(x) + 1, 289} {
			digits := head(n, x...)
			checkDigits(t, digits, 9, "", api.ErrCode)
			checkDigits(t, digits+strings.Repeat("01", 40), 9, "", api.ErrCode)
			checkDigits(t, digits+head(0, pair{last, 1})+"1", 9, "", api.ErrCode)
		}
	}
	checkDigits(t, head(2, pair{0, 1}, pair{last, 1})+"001", 9, "\x00\x00", api.OK) // the lowest symbol
	checkDigits(t, head(2, pair{287, 1}, pair{last, 1})+"1", 9, "", api.OK)         // the next one to the end
}

func TestExpandLengthsThatAreNoCode(t *testing.T) {
	for _, x := range [][]pair{
		{{last, 2}}, {{last, 15}}, // alone, but not of one bit
		{{'a', 2}, {last, 2}}, {{'a', 1}, {last, 2}}, {{'a', 15}, {last, 1}}, // too few
		{{'a', 1}, {'b', 1}, {last, 1}}, {{'a', 1}, {'b', 15}, {last, 1}}, {{'a', 2}, {'b', 1}, {last, 1}}, // too many
		{{'a', 1}}, {{256, 1}}, {{0, 1}, {1, 1}}, {{'a', 1}, {287, 1}}, {{'a', 2}, {'b', 2}, {'c', 1}}, // none of the end
	} {
		checkDigits(t, head(len(x), x...), 9, "", api.ErrCode)
		checkDigits(t, head(len(x), x...)+"0000", 9, "", api.ErrCode)
		checkDigits(t, head(len(x), x...)+strings.Repeat("1", 30), 9, "", api.ErrCode)
	}
}

func TestExpandWords(t *testing.T) {
	checkDigits(t, onlyEnd+"0", 9, "", api.OK)
	checkDigits(t, onlyEnd+"1", 9, "", api.ErrCode) // of no word
	checkDigits(t, aAndEnd+"1", 9, "", api.OK)
	checkDigits(t, aAndEnd+"01", 9, "a", api.OK)
	checkDigits(t, aAndEnd+"0001", 9, "aaa", api.OK)
	checkDigits(t, aThreeEnd+"010"+back(1)+"11", 9, "aaaa", api.OK)
	checkDigits(t, aThreeEnd+"010"+back(1)+"10"+back(4)+"0"+"11", 9, "aaaaaaaa", api.OK)
	// Words of all lengths: the end has the last one.
	l := []pair{{last, 15}}
	for i := 15; i > 0; i-- {
		l = append(l, pair{100 + i, i})
	}
	slices.SortFunc(l, func(a, b pair) int { return a.symbol - b.symbol })
	words := wordsOf(lengthsOf(l))
	digits, want := head(16, l...), ""
	for i := 1; i <= 15; i++ {
		digits += words[100+i]
		want += string([]byte{byte(100 + i)})
	}
	digits += words[last]
	checkDigits(t, digits, 15, want, api.OK)
	for n := 0; n < len(digits); n += 8 {
		checkDigits(t, digits[:n], 15, "", api.ErrShort)
	}
}

func TestExpandTheEndOfBytes(t *testing.T) {
	// So many digits that the end's word stands at each place of a byte.
	for n := range 17 {
		digits := aAndEnd + strings.Repeat("0", n) + "1"
		text := strings.Repeat("a", n)
		checkDigits(t, digits, n, text, api.OK)
		checkExpand(t, bytesOf(digits)+"\x00", n, "", api.ErrMore)
		checkExpand(t, bytesOf(digits)+"\xff", n, "", api.ErrMore)
		checkExpand(t, bytesOf(digits)+"\x00\x00\x00", n, "", api.ErrMore)
		for fill := len(digits); fill%8 != 0; fill++ {
			checkDigits(t, digits+strings.Repeat("0", fill-len(digits))+"1", n, "", api.ErrMore)
		}
		if whole := digits[:len(digits)-1]; len(whole)%8 == 0 {
			checkDigits(t, whole, n, "", api.ErrShort)
		}
	}
}

func TestExpandMatchesInTheText(t *testing.T) {
	s := someText(rand.New(rand.NewSource(93)), 600, 256, 0)
	for _, n := range []int{3, 4, 20, 33, 34} {
		var l []pair
		for i := range 254 {
			l = append(l, pair{i, 8})
		}
		l = append(l, pair{254, 9}, pair{255, 9}, pair{253 + n, 9}, pair{last, 9})
		words := wordsOf(lengthsOf(l))
		end := words[last]
		for _, far := range []int{1, 2, 3, n, 255, 256, 511, 512} {
			for _, at := range []int{far, far + 1, far + 88} {
				digits := head(258, l...)
				for _, c := range []byte(s[:at]) {
					digits += words[c]
				}
				match := words[253+n] + back(far)
				want := s[:at] + strings.Repeat(s[at-far:at], 34)[:n]
				checkDigits(t, digits+match+end, at+n, want, api.OK)
				checkDigits(t, digits+match+end, math.MaxInt, want, api.OK)
				checkDigits(t, digits+match+end, at+n-1, "", api.ErrCap)
				checkDigits(t, digits+match, at+n-1, "", api.ErrCap)
				checkDigits(t, digits+match+end, at-1, "", api.ErrCap)
				if at == far && far < 512 {
					tooFar := words[253+n] + back(far+1)
					checkDigits(t, digits+tooFar+end, math.MaxInt, "", api.ErrMatch)
					checkDigits(t, digits+tooFar, far, "", api.ErrMatch) // ahead of ErrCap, and of ErrShort
				}
			}
		}
	}
}

// The first error counts, by where it is read.
func TestExpandTellsTheFirstError(t *testing.T) {
	for _, x := range []struct {
		digits string
		most   int
		e      api.Errno
	}{
		{aThreeEnd + "010" + back(2), 9, api.ErrMatch},                               // and nothing behind
		{aThreeEnd + "010" + back(2) + "11" + strings.Repeat("1", 9), 0, api.ErrCap}, // the byte ahead is too many
		{aThreeEnd + "010" + back(2) + "11" + strings.Repeat("1", 9), 1, api.ErrMatch},
		{aThreeEnd + "010" + back(1) + "10" + back(9), 3, api.ErrCap},
		{aThreeEnd + "010" + back(1) + "10" + back(9), 4, api.ErrMatch},
		{aThreeEnd + "10" + back(1) + "0", -1, api.ErrMatch},
		{aThreeEnd + "0011" + strings.Repeat("0", 20), 1, api.ErrCap}, // ahead of ErrMore
		{aThreeEnd + "0011" + strings.Repeat("0", 20), 2, api.ErrMore},
		{aThreeEnd + "010" + back(512)[:5], 1, api.ErrShort}, // a match is no match till its Back is there
		{aAndEnd + strings.Repeat("0", 64), 20, api.ErrCap},
		{aAndEnd + strings.Repeat("0", 64), 80, api.ErrShort},
		{onlyEnd + "1" + strings.Repeat("1", 20), 0, api.ErrCode},
		{onlyEnd + "0" + strings.Repeat("1", 20), 0, api.ErrMore},
		{threeAndEnd + "0" + back(1), math.MinInt, api.ErrMatch},
		{threeAndEnd + "0" + back(512) + "1", math.MaxInt, api.ErrMatch},
	} {
		checkDigits(t, x.digits, x.most, "", x.e)
		if _, e := wantExpand(bytesOf(x.digits), x.most); e != x.e {
			t.Errorf("wantExpand(%s, %d) tells %d, not %d", x.digits, x.most, e, x.e)
		}
	}
}

func TestExpandOfAtMost(t *testing.T) {
	for _, most := range []int{math.MinInt, -512, -1, 0, 1, math.MaxInt} {
		checkDigits(t, onlyEnd+"0", most, "", api.OK) // no token, nothing is asked
	}
	for _, n := range []int{1, 2, 3, 4, 35, 36, 37, 300, 1000, 4096} {
		made, _ := squeeze.Squeeze(strings.Repeat("a", n))
		for _, most := range []int{n, n + 1, 2 * n, 4097, math.MaxInt} {
			checkExpand(t, made, most, strings.Repeat("a", n), api.OK)
		}
		for _, most := range []int{n - 1, n / 2, 0, -1, -n, -512, -4096, math.MinInt, math.MinInt + 1} {
			checkExpand(t, made, most, "", api.ErrCap)
		}
	}
}

// What is expanded may be longer than what may be squeezed.
func TestExpandLongTexts(t *testing.T) {
	tokens := 3000
	digits := aThreeEnd + "0" + strings.Repeat("10"+back(1), tokens) + "11"
	n := 1 + 3*tokens
	checkDigits(t, digits, n, strings.Repeat("a", n), api.OK)
	checkDigits(t, digits, n-1, "", api.ErrCap)
	checkDigits(t, digits, 4096, "", api.ErrCap)
	checkDigits(t, aAndEnd+strings.Repeat("0", 20000)+"1", 20000, strings.Repeat("a", 20000), api.OK)
}

// Each cut, each bit turned, and each byte more.
func TestExpandWhatWasChanged(t *testing.T) {
	r := rand.New(rand.NewSource(94))
	told := map[api.Errno]int{}
	check := func(made string, most int) {
		want, e := wantExpand(made, most)
		checkExpand(t, made, most, want, e)
		told[e]++
	}
	texts := []string{"", "a", "aaaa", "abcabcabc", "abcdabcabd"}
	for range 12 {
		texts = append(texts, someText(r, r.Intn(60), 1+r.Intn(9), 10))
	}
	for _, s := range texts {
		made, _ := squeeze.Squeeze(s)
		for n := range len(made) + 1 {
			check(made[:n], len(s))
			check(made[:n]+"\x00", len(s))
			check(made[:n]+"\xff\xff", len(s))
		}
		for i := range 8 * len(made) {
			b := []byte(made)
			b[i/8] ^= 1 << (i % 8)
			check(string(b), len(s))
			check(string(b), len(s)/2)
			check(string(b), 1000)
		}
	}
	for _, e := range []api.Errno{api.OK, api.ErrShort, api.ErrMore, api.ErrCode, api.ErrMatch, api.ErrCap} {
		if told[e] < 20 {
			t.Errorf("error %d was told %d times", e, told[e])
		}
	}
}

// Random words behind codes that are good.
func TestExpandRandomWords(t *testing.T) {
	r := rand.New(rand.NewSource(95))
	told := map[api.Errno]int{}
	heads := []string{
		onlyEnd, aAndEnd, threeAndEnd, aThreeEnd,
		head(4, pair{'a', 1}, pair{'b', 2}, pair{287, 3}, pair{last, 3}),
		head(5, pair{0, 1}, pair{255, 2}, pair{256, 3}, pair{270, 4}, pair{last, 4}),
	}
	for range 4000 {
		digits := heads[r.Intn(len(heads))]
		for range r.Intn(120) {
			digits += string([]byte{'0' + byte(r.Intn(4)/3)})
		}
		most := r.Intn(100)
		want, e := wantExpand(bytesOf(digits), most)
		checkDigits(t, digits, most, want, e)
		told[e]++
	}
	for _, e := range []api.Errno{api.OK, api.ErrShort, api.ErrMore, api.ErrCode, api.ErrMatch, api.ErrCap} {
		if told[e] < 20 {
			t.Errorf("error %d was told %d times", e, told[e])
		}
	}
}

func TestExpandAnyBytes(t *testing.T) {
	r := rand.New(rand.NewSource(96))
	for range 3000 {
		b := make([]byte, r.Intn(60))
		r.Read(b)
		if len(b) > 1 && r.Intn(2) == 0 {
			b[0], b[1] = byte(r.Intn(4)), b[1]&254 // few symbols
		}
		want, e := wantExpand(string(b), 100)
		checkExpand(t, string(b), 100, want, e)
	}
}

// P9.4

func TestWhatWasSqueezedIsExpanded(t *testing.T) {
	r := rand.New(rand.NewSource(97))
	for range 200 {
		s := someText(r, r.Intn(4097), 1+r.Intn(256), r.Intn(60))
		checkSqueeze(t, s)
		made, _ := squeeze.Squeeze(s)
		checkExpand(t, made, mostPlain, s, api.OK)
		if s != "" {
			checkExpand(t, made, len(s)-1, "", api.ErrCap)
		}
	}
	for n := range 8 {
		for i := range 1 << n {
			b := make([]byte, n)
			for k := range b {
				b[k] = 'a' + byte(i>>k&1)
			}
			checkSqueeze(t, string(b))
		}
	}
}

// R3 and R5

func TestArgumentsStay(t *testing.T) {
	l := append(window.Split("abcabcabcabc"), token{C: 'x'}, token{Len: 40})
	was := slices.Clone(l)
	first := squeeze.Freq(l[:4])
	second := squeeze.Freq(l[:4])
	first[0] = 9
	_ = append(first, 7)
	if second[0] != 0 || !slices.Equal(second, wantFreq(l[:4])) || !slices.Equal(squeeze.Freq(l[:4]), second) {
		t.Error("two answers share memory")
	}
	if !slices.Equal(l, was) {
		t.Errorf("Freq made %v of %v", l, was)
	}
}

func TestAnswersAreTheSame(t *testing.T) {
	s := someText(rand.New(rand.NewSource(98)), 2000, 4, 10)
	want := wantSqueeze(s)
	var all sync.WaitGroup
	for range 8 {
		all.Go(func() {
			for range 3 {
				checkSqueeze(t, s)
				checkExpand(t, want[:len(want)-1], len(s), "", api.ErrShort)
				checkExpand(t, want, len(s), s, api.OK)
			}
		})
	}
	all.Wait()
}

func BenchmarkSqueeze(b *testing.B) {
	s := someText(rand.New(rand.NewSource(99)), mostPlain, 26, 10)
	for b.Loop() {
		squeeze.Squeeze(s)
	}
}

func BenchmarkExpand(b *testing.B) {
	for _, x := range []struct{ name, s string }{
		{"apart", someText(rand.New(rand.NewSource(99)), mostPlain, 256, 0)},
		{"mixed", someText(rand.New(rand.NewSource(99)), mostPlain, 26, 10)},
	} {
		made, _ := squeeze.Squeeze(x.s)
		b.Run(x.name, func(b *testing.B) {
			for b.Loop() {
				squeeze.Expand(made, mostPlain)
			}
		})
	}
}
