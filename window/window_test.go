package window_test

import (
	"math"
	"math/rand"
	"slices"
	"strings"
	"sync"
	"testing"

	"hanaper/api"
	"hanaper/window"
)

type token = window.Token

const (
	shortest = 3
	longest  = 34
	reach    = 512
)

// wantMatch tries all lengths, the greatest first, and all ways back, the nearest first.
func wantMatch(s string, at int) (int, int) {
	if at < 0 || at > len(s) {
		return 0, 0
	}
	for n := longest; n >= shortest; n-- {
		for back := 1; back <= reach && back <= at; back++ {
			if at+n <= len(s) && s[at-back:at-back+n] == s[at:at+n] {
				return n, back
			}
		}
	}
	return 0, 0
}

func wantSplit(s string) []token {
	var l []token
	for at := 0; at < len(s); {
		if n, back := wantMatch(s, at); n > 0 {
			l = append(l, token{Len: n, Back: back})
			at += n
			continue
		}
		l = append(l, token{C: s[at]})
		at++
	}
	return l
}

func wantJoin(l []token, most int) (string, api.Errno) {
	s := ""
	for _, t := range l {
		isByte := t.Len == 0 && t.Back == 0
		isMatch := t.Len >= shortest && t.Len <= longest && t.Back >= 1 && t.Back <= reach && t.C == 0
		switch {
		case isByte:
			s += string([]byte{t.C})
		case !isMatch:
			return "", api.ErrArg
		case len(s) < t.Back:
			return "", api.ErrMatch
		default:
			run := strings.Repeat(s[len(s)-t.Back:], longest)
			s += run[:t.Len]
		}
		if len(s) > most {
			return "", api.ErrCap
		}
	}
	return s, api.OK
}

func bytesOf(s string) []token {
	var l []token
	for _, c := range []byte(s) {
		l = append(l, token{C: c})
	}
	return l
}

// someText is the more like itself the fewer letters it has, and the more often it goes on with bytes from farther ahead.
func someText(r *rand.Rand, n, letters, copies int) string {
	b := make([]byte, 0, n+64)
	for len(b) < n {
		if len(b) > 0 && r.Intn(100) < copies {
			from := max(0, len(b)-1-r.Intn(540))
			for i := range 1 + r.Intn(50) {
				b = append(b, b[from+i])
			}
			continue
		}
		b = append(b, byte(r.Intn(letters)))
	}
	return string(b[:n])
}

// apart has no three bytes twice, in up to some ten thousand bytes.
func apart(n int) string {
	var b []byte
	for i := 0; len(b) < n; i++ {
		b = append(b, byte(100+i/100), byte(i%100), 255)
	}
	return string(b[:n])
}

func checkMatch(t *testing.T, s string, at, wantLen, wantBack int) {
	t.Helper()
	if n, back := window.Match(s, at); n != wantLen || back != wantBack {
		t.Errorf("Match(%.60q of %d, %d) = %d, %d, want %d, %d", s, len(s), at, n, back, wantLen, wantBack)
	}
}

// checkText holds Match at each place, Split and Join against what they should be.
func checkText(t *testing.T, s string) {
	t.Helper()
	for at := range len(s) + 2 {
		n, back := wantMatch(s, at)
		checkMatch(t, s, at, n, back)
	}
	checkSplit(t, s, wantSplit(s))
}

func checkSplit(t *testing.T, s string, want []token) {
	t.Helper()
	l := window.Split(s)
	if !slices.Equal(l, want) {
		t.Errorf("Split(%.60q of %d) = %v, want %v", s, len(s), l, want)
	}
	checkJoin(t, l, len(s), s, api.OK)
}

func checkJoin(t *testing.T, l []token, most int, want string, wantE api.Errno) {
	t.Helper()
	if s, e := window.Join(l, most); s != want || e != wantE {
		t.Errorf("Join(%v, %d) = %.60q, %d, want %.60q, %d", l, most, s, e, want, wantE)
	}
}

// P8.1

func TestMatchOfKnownTexts(t *testing.T) {
	for _, x := range []struct {
		s             string
		at, len, back int
	}{
		{"abcabc", 3, 3, 3},
		{"abcabx", 3, 0, 0},
		{"abcab", 3, 0, 0}, // two bytes are too few
		{"abcdabcd", 4, 4, 4},
		{"abcdabcd", 5, 3, 4},
		{"abcdabcd", 6, 0, 0},
		{"abc-abc-abc", 8, 3, 4},         // the nearest of the same length
		{"abcd-abcx-abcdx", 10, 4, 10},   // a longer one, farther back
		{"abcd-abc-abcd-abc", 14, 3, 5},  // the nearest one is as long
		{"abcd-abcd-abc-abcd", 14, 4, 9}, // the nearest of the longest
		{"aaaa", 1, 3, 1},
		{"aaaa", 2, 0, 0},
		{"ababababa", 2, 7, 2}, // beyond at
		{"ababababa", 3, 6, 2},
		{"ababababa", 4, 5, 2},
		{"\x00\x00\x00\x00", 1, 3, 1},
		{"\xff\xfe\xfd\xff\xfe\xfd", 3, 3, 3},
		{"abab\x00ab\x00ab\x00", 8, 3, 3},
		{"é-é-", 3, 3, 3}, // bytes, whatever characters they are
	} {
		checkMatch(t, x.s, x.at, x.len, x.back)
	}
}

func TestMatchAtNoPlace(t *testing.T) {
	s := strings.Repeat("a", 600)
	for _, at := range []int{-1, -3, -512, -600, math.MinInt, 0, 598, 599, 600, 601, 1200, math.MaxInt} {
		checkMatch(t, s, at, 0, 0)
	}
	for _, short := range []string{"", "a", "aa", "aaa"} {
		for _, at := range []int{math.MinInt, -1, 0, 1, 2, 3, 4, math.MaxInt} {
			checkMatch(t, short, at, 0, 0)
		}
	}
	checkMatch(t, s, 597, 3, 1)
}

func TestMatchIsNoLongerThanItMayBe(t *testing.T) {
	for n := 1; n <= 80; n++ {
		want := min(n, 34)
		if n < 3 {
			want = 0
		}
		checkMatch(t, strings.Repeat("z", n+1), 1, want, min(want, 1))
		run := apart(n)
		checkMatch(t, run+"!"+run, n+1, want, min(want, 1)*(n+1))
		checkMatch(t, run+"!"+run+"?", n+1, want, min(want, 1)*(n+1))
	}
	// Of two that are as long as may be the nearest one is taken, though the other would go on.
	run := apart(50)
	checkMatch(t, run+"!"+run[:34]+"?"+run, 86, 34, 35)
	checkMatch(t, run+"!"+run[:33]+"?"+run, 85, 34, 85)
}

func TestMatchInTheWindow(t *testing.T) {
	for gap := 500; gap <= 520; gap++ {
		for ahead := range 4 {
			s := strings.Repeat("-", ahead) + "abc" + strings.Repeat("\x00", gap) + "abc"
			n, back := 3, gap+3
			if back > 512 {
				n, back = 0, 0
			}
			checkMatch(t, s, ahead+3+gap, n, back)
			checkMatch(t, s+"more", ahead+3+gap, n, back)
		}
	}
	// A longer one beyond the window is none.
	s := "abcdef" + strings.Repeat("\x00", 250) + "abc" + strings.Repeat("\x00", 253) + "abcdef"
	checkMatch(t, s, len(s)-6, 6, 512)
	checkMatch(t, s[:300]+"\x00"+s[300:], len(s)-5, 3, 257)
	// One that begins in the window may end ahead of, at or behind its end.
	run := apart(700)
	checkMatch(t, run[:600]+run[88:], 600, 34, 512)
	checkMatch(t, run[:600]+run[87:87+5], 600, 0, 0)
}

func TestMatchFarBehind(t *testing.T) {
	s := apart(4000)
	s += s[3600:3700] + "?" + s[100:200]
	checkMatch(t, s, 4000, 34, 400)
	checkMatch(t, s, 4080, 20, 400)
	checkMatch(t, s, 4101, 0, 0)
}

func TestMatchOfRandomTexts(t *testing.T) {
	r := rand.New(rand.NewSource(81))
	for _, letters := range []int{1, 2, 3, 4, 26, 256} {
		for _, copies := range []int{0, 5, 50} {
			s := someText(r, 1500, letters, copies)
			for range 60 {
				at := r.Intn(len(s))
				n, back := wantMatch(s, at)
				checkMatch(t, s, at, n, back)
			}
		}
	}
}

func TestAllShortTexts(t *testing.T) {
	for n := range 9 {
		for i := range 1 << n {
			b := make([]byte, n)
			for k := range b {
				b[k] = 'a' + byte(i>>k&1)
			}
			checkText(t, string(b))
		}
	}
	for n := range 7 {
		for i := range int(math.Pow(3, float64(n))) {
			b := make([]byte, n)
			for k, left := 0, i; k < n; k, left = k+1, left/3 {
				b[k] = 'a' + byte(left%3)
			}
			checkText(t, string(b))
		}
	}
}

// P8.2

func TestSplitKnownTexts(t *testing.T) {
	for _, x := range []struct {
		s string
		l []token
	}{
		{"", nil},
		{"a", bytesOf("a")},
		{"aaa", bytesOf("aaa")},
		{"\x00\x00", bytesOf("\x00\x00")},
		{"aaaa", append(bytesOf("a"), token{Len: 3, Back: 1})},
		{"abcabcabd", append(append(bytesOf("abc"), token{Len: 5, Back: 3}), bytesOf("d")...)},
		{"abcxabcyabc", append(append(append(bytesOf("abcx"), token{Len: 3, Back: 4}), bytesOf("y")...), token{Len: 3, Back: 4})},
		{strings.Repeat("z", 40), append(bytesOf("z"), token{Len: 34, Back: 1}, token{Len: 5, Back: 1})},
		{strings.Repeat("z", 35), append(bytesOf("z"), token{Len: 34, Back: 1})},
		{strings.Repeat("z", 36), append(append(bytesOf("z"), token{Len: 34, Back: 1}), bytesOf("z")...)},
		{strings.Repeat("z", 38), append(bytesOf("z"), token{Len: 34, Back: 1}, token{Len: 3, Back: 1})},
		{"abcdebcdefabcdefg", append(append(append(append(bytesOf("abcde"), token{Len: 4, Back: 4}), bytesOf("f")...), token{Len: 5, Back: 10}), bytesOf("fg")...)},
		{"bcdabc-abcd", append(append(bytesOf("bcdabc-"), token{Len: 3, Back: 4}), bytesOf("d")...)}, // what is found first is taken, though bcd is longer ahead
	} {
		checkSplit(t, x.s, x.l)
	}
}

// Places within a match, and beyond it, are places that a later match begins at.
func TestSplitGoesBackIntoMatches(t *testing.T) {
	s := "abcdefgh" + "abcdefgh" + "-" + "ghabc"
	checkSplit(t, s, append(append(append(bytesOf("abcdefgh"), token{Len: 8, Back: 8}), bytesOf("-")...), token{Len: 5, Back: 11}))
	s = "abcdefgh" + "abcdefgh" + "-" + "defg"
	checkSplit(t, s, append(append(append(bytesOf("abcdefgh"), token{Len: 8, Back: 8}), bytesOf("-")...), token{Len: 4, Back: 6}))
	s = "abcdefgh" + "abcdefgh" + "-" + "h-h"
	checkSplit(t, s, append(append(append(bytesOf("abcdefgh"), token{Len: 8, Back: 8}), bytesOf("-")...), token{Len: 3, Back: 2})) // from a match's last byte on
}

func TestSplitTextsThatAreNotAlike(t *testing.T) {
	for _, n := range []int{1, 2, 3, 4, 33, 34, 35, 511, 512, 513, 4096, 5000} {
		s := apart(n)
		checkSplit(t, s, bytesOf(s))
	}
}

func TestSplitRandomTexts(t *testing.T) {
	r := rand.New(rand.NewSource(82))
	for _, letters := range []int{1, 2, 3, 26, 256} {
		for _, copies := range []int{0, 5, 50} {
			for _, n := range []int{10, 100, 700, 1500} {
				s := someText(r, n, letters, copies)
				checkSplit(t, s, wantSplit(s))
			}
		}
	}
}

func TestSplitByMatch(t *testing.T) {
	r := rand.New(rand.NewSource(83))
	s := someText(r, 3000, 5, 20)
	at := 0
	for i, x := range window.Split(s) {
		n, back := window.Match(s, at)
		want := token{Len: n, Back: back}
		if n == 0 {
			want = token{C: s[at]}
		}
		if x != want {
			t.Fatalf("token %d at %d is %v, want %v", i, at, x, want)
		}
		at += max(n, 1)
	}
	if at != len(s) {
		t.Errorf("split to %d of %d", at, len(s))
	}
}

// P8.3

func TestJoinKnownTokens(t *testing.T) {
	a := token{C: 'a'}
	abc := bytesOf("abc")
	for _, x := range []struct {
		l    []token
		most int
		s    string
		e    api.Errno
	}{
		{nil, 0, "", api.OK},
		{nil, -1, "", api.OK}, // nothing is asked
		{[]token{}, math.MinInt, "", api.OK},
		{[]token{a}, 1, "a", api.OK},
		{[]token{a}, 0, "", api.ErrCap},
		{[]token{a}, -1, "", api.ErrCap},
		{[]token{a}, math.MinInt, "", api.ErrCap},
		{[]token{a}, math.MaxInt, "a", api.OK},
		{[]token{{}}, 1, "\x00", api.OK},
		{[]token{{C: 255}}, 1, "\xff", api.OK},
		{[]token{a, {Len: 3, Back: 1}}, 4, "aaaa", api.OK},
		{[]token{a, {Len: 3, Back: 1}}, 3, "", api.ErrCap},
		{append(slices.Clone(abc), token{Len: 3, Back: 3}), 6, "abcabc", api.OK},
		{append(slices.Clone(abc), token{Len: 3, Back: 2}), 6, "abcbcb", api.OK},
		{append(slices.Clone(abc), token{Len: 7, Back: 3}, a), 11, "abcabcabcaa", api.OK},
		{append(slices.Clone(abc), token{Len: 7, Back: 3}, a), 10, "", api.ErrCap},
		{append(slices.Clone(abc), token{Len: 3, Back: 4}), 6, "", api.ErrMatch},
		{[]token{{Len: 3, Back: 1}}, 9, "", api.ErrMatch},
		{[]token{a, {Len: 3, Back: 2}}, 9, "", api.ErrMatch},
		{[]token{a, {Len: 34, Back: 1}, {Len: 34, Back: 35}}, 69, strings.Repeat("a", 69), api.OK},
		{[]token{a, {Len: 34, Back: 1}, {Len: 34, Back: 36}}, 69, "", api.ErrMatch},
	} {
		checkJoin(t, x.l, x.most, x.s, x.e)
	}
}

func TestJoinTokensThatMayNotBe(t *testing.T) {
	ahead := bytesOf(apart(600))
	for _, x := range []token{
		{Len: 1, Back: 1}, {Len: 2, Back: 1}, {Len: 35, Back: 1}, {Len: -1, Back: 1}, {Len: -3, Back: 1},
		{Len: math.MaxInt, Back: 1}, {Len: math.MinInt, Back: 1},
		{Len: 3, Back: 0}, {Len: 3, Back: -1}, {Len: 3, Back: 513}, {Len: 3, Back: math.MaxInt}, {Len: 3, Back: math.MinInt}, {Len: 34, Back: 0},
		{Back: 1}, {Back: -1}, {Back: 512}, {C: 'a', Back: 1}, {C: 'a', Back: math.MaxInt}, {C: 'a', Back: math.MinInt},
		{C: 'a', Len: 3, Back: 1}, {C: 1, Len: 34, Back: 512}, {C: 255, Len: 3, Back: 3}, {C: 'a', Len: 2, Back: 1}, {C: 'a', Len: 3},
	} {
		for _, most := range []int{math.MinInt, 600, 1000, math.MaxInt} {
			checkJoin(t, []token{x}, most, "", api.ErrArg) // ahead of there being too few, or too many
		}
		checkJoin(t, append(slices.Clone(ahead), x), 600, "", api.ErrArg)
		checkJoin(t, append(slices.Clone(ahead), x), 700, "", api.ErrArg)
		checkJoin(t, append(slices.Clone(ahead), x), 599, "", api.ErrCap) // that of the tokens ahead comes first
	}
}

func TestJoinAtTheEdges(t *testing.T) {
	s := apart(600)
	ahead := bytesOf(s)
	for _, n := range []int{3, 4, 33, 34} {
		for _, back := range []int{1, 2, 3, 33, 34, 35, 511, 512} {
			want := s + strings.Repeat(s[600-back:], longest)[:n]
			l := append(slices.Clone(ahead), token{Len: n, Back: back})
			checkJoin(t, l, 600+n, want, api.OK)
			checkJoin(t, l, 600+n-1, "", api.ErrCap)
			checkJoin(t, append(slices.Clone(ahead[:back]), l[600]), 600, s[:back]+strings.Repeat(s[:back], longest)[:n], api.OK)
			checkJoin(t, append(slices.Clone(ahead[:back-1]), l[600]), 600, "", api.ErrMatch)
			checkJoin(t, append(slices.Clone(ahead[:back-1]), l[600]), back-1, "", api.ErrMatch) // ahead of ErrCap
		}
	}
}

func TestJoinTellsTheFirstError(t *testing.T) {
	a, match, wrong := token{C: 'a'}, token{Len: 3, Back: 2}, token{Len: 2, Back: 1}
	checkJoin(t, []token{a, match, wrong}, 9, "", api.ErrMatch)
	checkJoin(t, []token{a, wrong, match}, 9, "", api.ErrArg)
	checkJoin(t, []token{a, a, wrong}, 1, "", api.ErrCap)
	checkJoin(t, []token{a, a, match, wrong}, 4, "", api.ErrCap)
	checkJoin(t, []token{a, a, match, wrong}, 5, "", api.ErrArg)
	checkJoin(t, []token{a, a, match, match, wrong}, 5, "", api.ErrCap)
	checkJoin(t, []token{a, a, match, {Len: 3, Back: 6}, a, a}, 5, "", api.ErrMatch)
}

func TestJoinRandomTokens(t *testing.T) {
	r := rand.New(rand.NewSource(84))
	told := map[api.Errno]int{}
	for range 3000 {
		var l []token
		for range r.Intn(40) {
			x := token{C: byte(r.Intn(256))}
			if len(l) > 0 && r.Intn(3) > 0 {
				x = token{Len: 3 + r.Intn(32), Back: 1 + r.Intn(4*len(l))}
			}
			switch r.Intn(200) {
			case 0:
				x.C++
			case 1:
				x.Len = r.Intn(40) - 2
			case 2:
				x.Back = r.Intn(520) - 2
			}
			l = append(l, x)
		}
		most := r.Intn(1200)
		want, e := wantJoin(l, most)
		checkJoin(t, l, most, want, e)
		told[e]++
	}
	for _, e := range []api.Errno{api.OK, api.ErrArg, api.ErrMatch, api.ErrCap} {
		if told[e] < 100 {
			t.Errorf("error %d was told %d times", e, told[e])
		}
	}
}

// P8.4

func TestWhatWasSplitIsJoined(t *testing.T) {
	r := rand.New(rand.NewSource(85))
	for range 300 {
		s := someText(r, r.Intn(4097), 1+r.Intn(256), r.Intn(60))
		l := window.Split(s)
		checkJoin(t, l, len(s), s, api.OK)
		if s != "" {
			checkJoin(t, l, len(s)-1, "", api.ErrCap)
		}
	}
	s := someText(r, 70000, 3, 10)
	checkJoin(t, window.Split(s), len(s), s, api.OK)
}

// R3 and R5

func TestArgumentsStay(t *testing.T) {
	l := append(bytesOf("abc"), token{Len: 9, Back: 3}, token{C: 'x'}, token{Len: 3, Back: 4})
	was := slices.Clone(l)
	checkJoin(t, l[:4], 12, "abcabcabcabc", api.OK)
	checkJoin(t, l[:4], 11, "", api.ErrCap)
	if !slices.Equal(l, was) {
		t.Errorf("Join made %v of %v", l, was)
	}
	first := window.Split("abcabc")
	second := window.Split("abcabc")
	first[0].C = 'z'
	_ = append(first, token{C: 'y'})
	if second[0].C != 'a' {
		t.Error("two answers share memory")
	}
	checkSplit(t, "abcabc", second)
}

func TestAnswersAreTheSame(t *testing.T) {
	s := someText(rand.New(rand.NewSource(86)), 2000, 4, 10)
	want := wantSplit(s)
	var all sync.WaitGroup
	for range 8 {
		all.Go(func() {
			for range 3 {
				checkSplit(t, s, want)
				checkJoin(t, want, len(s), s, api.OK)
				n, back := wantMatch(s, 1000)
				checkMatch(t, s, 1000, n, back)
			}
		})
	}
	all.Wait()
}

func BenchmarkSplit(b *testing.B) {
	for _, x := range []struct{ name, s string }{
		{"alike", strings.Repeat("a", 4096)},
		{"apart", apart(4096)},
		{"mixed", someText(rand.New(rand.NewSource(87)), 4096, 4, 0)},
	} {
		b.Run(x.name, func(b *testing.B) {
			for b.Loop() {
				window.Split(x.s)
			}
		})
	}
}

func BenchmarkMatch(b *testing.B) {
	s := strings.Repeat("a", 4096)
	for b.Loop() {
		window.Match(s, 3000)
	}
}
