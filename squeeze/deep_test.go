package squeeze_test

import (
	"math/rand"
	"slices"
	"testing"

	"hanaper/prefix"
	"hanaper/squeeze"
	"hanaper/window"
)

// deepFreq is how often the symbols of a deep text come, a match of three bytes first, then bytes: each so much more often than those behind it that the last ones' words have 15 bits.
var deepFreq = []int{843, 521, 322, 199, 123, 76, 47, 29, 18, 11, 7, 4, 3, 1, 1}

const (
	aMatch = 0   // the kind of a match; other kinds are bytes
	aByte  = 1   // the byte that comes most often
	fresh  = 120 // tokens that are bytes, and rare ones
)

// deep is a text that grows token by token, and shrinks where none fits.
type deep struct {
	r     *rand.Rand
	left  []int // of each kind, how many are still to come
	text  []byte
	kinds []int
	at    []int // the tokens' places
}

// deepText is a text whose tokens come just as often as deepFreq says.
func deepText(seed int64) (string, bool) {
	d := &deep{r: rand.New(rand.NewSource(seed)), left: slices.Clone(deepFreq)}
	for range 10000 {
		if slices.Max(d.left) == 0 {
			return string(d.text), true
		}
		if !d.grow() {
			for range 1 + d.r.Intn(1+d.r.Intn(1+d.r.Intn(40))) {
				d.shrink()
			}
		}
	}
	return "", false
}

func (d *deep) grow() bool {
	if len(d.kinds) < fresh {
		// Rare bytes at first, so that later matches, which copy these, are of many kinds.
		return d.putByte(func() int { return 2 + min(d.r.Intn(13), d.r.Intn(13)) })
	}
	all := sum(d.left)
	afterMatch := d.kinds[len(d.kinds)-1] == aMatch
	isMatch := d.r.Intn(all)*10 < d.left[aMatch]*13 && (!afterMatch || d.r.Intn(10) == 0)
	anyByte := func() int { return d.pick(all - d.left[aMatch]) }
	if isMatch {
		return d.putMatch() || d.putByte(anyByte)
	}
	return d.putByte(anyByte) || d.putMatch()
}

// pick is a kind of byte, the likelier the more of it are to come.
func (d *deep) pick(bytes int) int {
	if bytes == 0 {
		return aByte
	}
	n := d.r.Intn(bytes)
	kind := aByte
	for n >= d.left[kind] {
		n -= d.left[kind]
		kind++
	}
	return kind
}

func (d *deep) putByte(kind func() int) bool {
	for range 40 {
		k := kind()
		if d.put(k, []byte{byte(k)}) {
			return true
		}
	}
	return false
}

// putMatch takes what was there the longest time ago first, and seldom the byte that comes most often.
func (d *deep) putMatch() bool {
	from := max(0, len(d.text)-512)
	n := len(d.text) - from - 3
	ahead := d.r.Intn(n/4 + 1)
	for i := range n {
		at := from + (i+ahead)%n
		run := slices.Clone(d.text[at : at+3])
		if slices.Contains(run, aByte) && d.r.Intn(10) > 0 {
			continue
		}
		if d.put(aMatch, run) {
			return true
		}
	}
	return false
}

// put puts a token behind, if there is one to come, and it and those ahead of it are yet what they should be.
func (d *deep) put(kind int, run []byte) bool {
	if d.left[kind] == 0 {
		return false
	}
	d.left[kind]--
	d.kinds = append(d.kinds, kind)
	d.at = append(d.at, len(d.text))
	d.text = append(d.text, run...)
	for i := max(0, len(d.kinds)-3); i < len(d.kinds); i++ {
		n := d.match(d.at[i])
		if d.kinds[i] == aMatch && n != 3 || d.kinds[i] != aMatch && n != 0 {
			d.shrink()
			return false
		}
	}
	return true
}

func (d *deep) shrink() {
	end := len(d.kinds) - 1
	if end < 0 {
		return
	}
	d.left[d.kinds[end]]++
	d.kinds = d.kinds[:end]
	d.text = d.text[:d.at[end]]
	d.at = d.at[:end]
}

// match is the length of window.Match, but for those of four bytes and more: 4.
func (d *deep) match(at int) int {
	best := 0
	for from := max(0, at-512); from < at; from++ {
		n := 0
		for n < 4 && at+n < len(d.text) && d.text[from+n] == d.text[at+n] {
			n++
		}
		best = max(best, n)
	}
	if best < 3 {
		return 0
	}
	return best
}

func sum(l []int) int {
	n := 0
	for _, x := range l {
		n += x
	}
	return n
}

// Words may have 15 bits: a text that makes such ones is squeezed by them.
func TestSqueezeTextsOfTheLongestWords(t *testing.T) {
	for _, seed := range []int64{3, 5, 7} { // of some others none is found
		s, is := deepText(seed)
		if !is {
			t.Fatal("no deep text")
		}
		lengths, e := prefix.Lengths(squeeze.Freq(window.Split(s)), 15)
		if slices.Max(lengths) != 15 {
			t.Errorf("words of %d bits, error %d", slices.Max(lengths), e)
		}
		checkSqueeze(t, s)
	}
}
