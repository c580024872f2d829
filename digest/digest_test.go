package digest_test

import (
	"crypto/hmac"
	"crypto/sha256"
	"encoding/hex"
	"math"
	"strings"
	"sync"
	"testing"

	"hanaper/api"
	"hanaper/digest"
)

// text makes n bytes that go through all values.
func text(n int) string {
	b := make([]byte, n)
	for i := range b {
		b[i] = byte(i*i + 7*i + 3)
	}
	return string(b)
}

func wantMac(key, s string) api.Hash {
	m := hmac.New(sha256.New, []byte(key))
	m.Write([]byte(s))
	return api.Hash(m.Sum(nil))
}

// P1.1

func TestWhole(t *testing.T) {
	for _, c := range []struct{ n, want int }{
		{0, 64}, {1, 64}, {54, 64}, {55, 64},
		{56, 128}, {63, 128}, {64, 128}, {65, 128}, {118, 128}, {119, 128},
		{120, 192}, {127, 192}, {128, 192}, {183, 192}, {184, 256},
		{1<<31 - 1, 1<<31 + 64}, {1<<32 - 9, 1 << 32}, {1<<32 - 8, 1<<32 + 64},
		{1<<40 - 9, 1 << 40}, {1<<40 - 8, 1<<40 + 64}, {1<<40 - 1, 1<<40 + 64}, {1 << 40, 1<<40 + 64},
		{1<<40 + 1, 0}, {1 << 41, 0}, {math.MaxInt - 8, 0}, {math.MaxInt, 0},
		{-1, 0}, {-8, 0}, {-9, 0}, {-64, 0}, {math.MinInt, 0},
	} {
		if got := digest.Whole(c.n); got != c.want {
			t.Errorf("Whole(%d) = %d, want %d", c.n, got, c.want)
		}
	}
}

func TestWholeIsTheLeastMultiple(t *testing.T) {
	for n := range 1000 {
		got := digest.Whole(n)
		if got%64 != 0 || got < n+9 || got-64 >= n+9 {
			t.Errorf("Whole(%d) = %d", n, got)
		}
	}
}

// P1.2

func TestSumKnown(t *testing.T) {
	for s, want := range map[string]string{
		"":    "e3b0c44298fc1c149afbf4c8996fb92427ae41e4649b934ca495991b7852b855",
		"abc": "ba7816bf8f01cfea414140de5dae2223b00361a396177a9cb410ff61f20015ad",
		"abcdbcdecdefdefgefghfghighijhijkijkljklmklmnlmnomnopnopq": "248d6a61d20638b8e5c026930c3e6039a33ce45964ff2167f6ecedd419db06c1",
		strings.Repeat("a", 1000000):                               "cdc76e5c9914fb9281a1c7e284d73e67f1809a48a497200e046d39ccc7112cd0",
	} {
		h := digest.Sum(s)
		if got := hex.EncodeToString(h[:]); got != want {
			t.Errorf("Sum of %d bytes: %s, want %s", len(s), got, want)
		}
	}
}

// Every length round several whole blocks, and at the places where the number of bits takes a block more.
func TestSumAtAllLengths(t *testing.T) {
	s := text(520)
	for n := range len(s) + 1 {
		if got, want := digest.Sum(s[:n]), api.Hash(sha256.Sum256([]byte(s[:n]))); got != want {
			t.Errorf("length %d: %x, want %x", n, got, want)
		}
	}
}

// The number of bits has more than one, two and three bytes.
func TestSumOfLongTexts(t *testing.T) {
	for _, n := range []int{8191, 8192, 65535, 65536, 1<<21 - 1, 1 << 21, 1<<21 + 57} {
		s := text(n)
		if got, want := digest.Sum(s), api.Hash(sha256.Sum256([]byte(s))); got != want {
			t.Errorf("length %d: %x, want %x", n, got, want)
		}
	}
}

func TestSumOfBytesThatAreNoText(t *testing.T) {
	for _, s := range []string{"\x00", "\x80", "\xff", "\xc3\x28", strings.Repeat("\x00", 64), strings.Repeat("\xff", 130), "a\x80", "a"} {
		if got, want := digest.Sum(s), api.Hash(sha256.Sum256([]byte(s))); got != want {
			t.Errorf("%q: %x, want %x", s, got, want)
		}
	}
}

// A text that looks like its own filling is another text.
func TestSumOfFilledText(t *testing.T) {
	filled := "abc\x80" + strings.Repeat("\x00", 59) + "\x18"
	if digest.Sum("abc") == digest.Sum(filled) {
		t.Error("a text and its filled one have one hash")
	}
}

// P1.3

func TestMacKnown(t *testing.T) {
	for _, c := range []struct{ key, s, want string }{
		{strings.Repeat("\x0b", 20), "Hi There", "b0344c61d8db38535ca8afceaf0bf12b881dc200c9833da726e9376c2e32cff7"},
		{"Jefe", "what do ya want for nothing?", "5bdcc146bf60754e6a042426089575c75a003f089d2739839dec58b964ec3843"},
		{strings.Repeat("\xaa", 131), "Test Using Larger Than Block-Size Key - Hash Key First", "60e431591ee0b67f0d8a26aacbf5b77f8e0bc6213728c5140546040f0ee37f54"},
		{"", "", "b613679a0814d9ec772f95d778c35fc5ff1697c493715653c6c712144292c5ad"},
	} {
		h := digest.Mac(c.key, c.s)
		if got := hex.EncodeToString(h[:]); got != c.want {
			t.Errorf("key %q: %s, want %s", c.key, got, c.want)
		}
	}
}

// Keys of no byte, of 64 bytes, and of more; texts that end round a whole block.
func TestMacAtAllLengths(t *testing.T) {
	keys, texts := text(200), text(260)
	for k := range len(keys) + 1 {
		for _, n := range []int{0, 1, 54, 55, 56, 63, 64, 65, 119, 120, 128, 260} {
			if got, want := digest.Mac(keys[:k], texts[:n]), wantMac(keys[:k], texts[:n]); got != want {
				t.Errorf("key of %d bytes, text of %d: %x, want %x", k, n, got, want)
			}
		}
	}
}

func TestMacOfLongKeyIsThatOfItsSum(t *testing.T) {
	for _, n := range []int{65, 66, 127, 128, 1000} {
		h := digest.Sum(text(n))
		if digest.Mac(text(n), "s") != digest.Mac(string(h[:]), "s") {
			t.Errorf("key of %d bytes", n)
		}
	}
	h := digest.Sum(text(64))
	if digest.Mac(text(64), "s") == digest.Mac(string(h[:]), "s") {
		t.Error("a key of 64 bytes was summed")
	}
}

func TestMacTellsKeyFromText(t *testing.T) {
	if digest.Mac("ab", "c") == digest.Mac("a", "bc") {
		t.Error("key and text run into one another")
	}
}

// P1.4

func TestHex(t *testing.T) {
	var h api.Hash
	for i := range 8 {
		for j := range h {
			h[j] = byte(32*i + j)
		}
		if got, want := digest.Hex(h), hex.EncodeToString(h[:]); got != want {
			t.Errorf("%s, want %s", got, want)
		}
	}
	if got, want := digest.Hex(api.Hash{}), strings.Repeat("0", 64); got != want {
		t.Error(got)
	}
	if got, want := digest.Hex(api.Hash{0: 0xa5, 31: 0x0f}), "a5"+strings.Repeat("0", 60)+"0f"; got != want {
		t.Error(got)
	}
}

// P1.5

func TestKeyWithZerosBehindItSealsAlike(t *testing.T) {
	for _, n := range []int{0, 1, 31, 32, 63, 64} {
		key := text(n)
		want := digest.Mac(key, "s")
		for zeros := 1; n+zeros <= 64; zeros++ {
			if digest.Mac(key+strings.Repeat("\x00", zeros), "s") != want {
				t.Errorf("key of %d bytes with %d zeros", n, zeros)
			}
		}
		if digest.Mac(key+strings.Repeat("\x00", 65-n), "s") == want {
			t.Errorf("key of %d bytes, filled up to 65, seals alike", n)
		}
	}
	if digest.Mac("k", "s") == digest.Mac("\x00k", "s") {
		t.Error("a zero ahead of a key seals alike")
	}
}

// R5

func TestOneAnswer(t *testing.T) {
	s := text(150)
	sum, mac := digest.Sum(s), digest.Mac(s, s)
	var wait sync.WaitGroup
	for range 8 {
		wait.Go(func() {
			for n := range 50 {
				digest.Sum(s[:n])
				if digest.Sum(s) != sum || digest.Mac(s, s) != mac {
					t.Error("another answer to the same call")
				}
			}
		})
	}
	wait.Wait()
}
