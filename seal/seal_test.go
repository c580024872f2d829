package seal_test

import (
	"crypto/aes"
	library "crypto/cipher"
	"crypto/hmac"
	"crypto/sha256"
	"encoding/hex"
	"math/rand"
	"strings"
	"sync"
	"testing"

	"hanaper/api"
	"hanaper/cipher"
	"hanaper/seal"
)

const (
	most  = 65536 // bytes that are made unreadable
	more  = 48    // bytes that a sealed text has more
	ahead = 16    // bytes of a nonce
	last  = 32    // bytes of a seal
)

// known was made by OpenSSL and by Python's hmac.
var known = []struct {
	key            string
	nonce          cipher.Block
	s              string
	reading, other string
	sealed         string
}{
	{"k", cipher.Block{3: 7}, "some text",
		"130bb247ed3c08b448705281dd530d9ce37cba702028367bf11ed5f2e7a8da0b",
		"e517349a87afd746bca859f2c3b54416493487ea49aabddbf52cc319d1e7a490",
		"000000070000000000000000000000001bda7cdb75a6eae5725e6bf322d3acb10dbeeb4d3e9d3184cabde6506b3209ccda530bda3cbfb9ffa4"},
	{"", cipher.Block{}, "",
		"1f273989520c1e18bb2a83fc3347c330893cac0f931458da518467b8cbe7724c",
		"e75643ab9f0be3900d70f99b42eea7ccccb51747dd8efea148a556952c6c09e6",
		"00000000000000000000000000000000c9bbe5023faa381f1f2e84089c8137611f7f05fed4d6088e6b0f2d2c88b51549"},
	{"a key", filled(255), "The quick brown fox jumps over the lazy dog",
		"92d113b74ba503481df75e9ba7e1247f9e06c7015b9c81e95731817d3327d7ae",
		"233daad2bf635572201b1b1c51ae8af8503505a8020139b8769d26597af91728",
		"ffffffffffffffffffffffffffffffff59f87cd031663547cbc95a47e120d2c3c47903083236bdb316f6c11f6d7a48080c2e161c8c6c36d19a93c6f8020d6281f9cb8d050a0f08894416aadd4dc6da9c2af44ae090d221be2e7cf3"},
	{strings.Repeat("x", 65), cipher.Block{0, 1, 2, 3, 4, 5, 6, 7, 8, 9, 10, 11, 12, 13, 14, 15}, "\x00\xff\x80",
		"aaa7b8765367aaa155b8c782d0e9abdc798abef63560a34442f779aaa5668f72",
		"c8890f32c2cc41ff3a3aaeaaffeb949bf0b3a11cf97134c74a92eb2f42fbab31",
		"000102030405060708090a0b0c0d0e0f9ab0e5880b0c209ef44fb040d938e2373d889ee5443a278b6700d910513d915714d500"},
}

// filled is a block of bytes x.
func filled(x byte) cipher.Block {
	var b cipher.Block
	for i := range b {
		b[i] = x
	}
	return b
}

func someText(r *rand.Rand, n int) string {
	b := make([]byte, n)
	r.Read(b)
	return string(b)
}

func someBlock(r *rand.Rand) cipher.Block {
	return cipher.Block([]byte(someText(r, ahead)))
}

// lengths are those round whole blocks of the cipher and of the seal, and round the last byte that is made unreadable.
func lengths() []int {
	ns := []int{255, 256, 257, 4096, most - 1, most, most + 1, most + 17, most + 1000}
	for n := range 140 {
		ns = append(ns, n)
	}
	return ns
}

// wantMac, wantMade and wantSealed are of Go's own library.
func wantMac(key, s string) string {
	m := hmac.New(sha256.New, []byte(key))
	m.Write([]byte(s))
	return string(m.Sum(nil))
}

func wantMade(t *testing.T, key string, nonce cipher.Block, s string) string {
	t.Helper()
	c, err := aes.NewCipher([]byte(wantMac(key, "read")))
	if err != nil {
		t.Fatal(err)
	}
	made := []byte(s)
	n := min(len(s), most)
	library.NewCTR(c, nonce[:]).XORKeyStream(made[:n], made[:n])
	return string(made)
}

func wantSealed(t *testing.T, key string, nonce cipher.Block, s string) string {
	t.Helper()
	all := string(nonce[:]) + wantMade(t, key, nonce, s)
	return all + wantMac(wantMac(key, "seal"), all)
}

func checkOpen(t *testing.T, key, sealed, want string, wantE api.Errno) {
	t.Helper()
	if got, e := seal.Open(key, sealed); got != want || e != wantE {
		t.Errorf("Open of %d bytes: %d bytes, error %d, want %d bytes, error %d", len(sealed), len(got), e, len(want), wantE)
	}
}

// P5.1

func TestKeysKnown(t *testing.T) {
	for _, c := range known {
		a, b := seal.Keys(c.key)
		if hex.EncodeToString(a[:]) != c.reading || hex.EncodeToString(b[:]) != c.other {
			t.Errorf("Keys of %q: %x, %x", c.key, a, b)
		}
	}
}

func TestKeysAreMacs(t *testing.T) {
	r := rand.New(rand.NewSource(1))
	keys := []string{"read", "seal", "\x00", "\xff\x80", strings.Repeat("\x00", 64), strings.Repeat("\x00", 65)}
	for n := range 140 {
		keys = append(keys, someText(r, n))
	}
	for _, key := range keys {
		a, b := seal.Keys(key)
		if string(a[:]) != wantMac(key, "read") || string(b[:]) != wantMac(key, "seal") {
			t.Errorf("Keys of %q: %x, %x", key, a, b)
		}
		if a == b {
			t.Errorf("Keys of %q: one key twice", key)
		}
	}
}

// P5.2

func TestSealKnown(t *testing.T) {
	for _, c := range known {
		if got := seal.Seal(c.key, c.nonce, c.s); hex.EncodeToString([]byte(got)) != c.sealed {
			t.Errorf("%q, %x, %q: %x, want %s", c.key, c.nonce, c.s, got, c.sealed)
		}
	}
}

func TestSealAtAllLengths(t *testing.T) {
	r := rand.New(rand.NewSource(2))
	for _, n := range lengths() {
		key, nonce, s := someText(r, r.Intn(100)), someBlock(r), someText(r, n)
		got := seal.Seal(key, nonce, s)
		if len(got) != n+more {
			t.Errorf("%d bytes came of %d", len(got), n)
		}
		if got != wantSealed(t, key, nonce, s) {
			t.Errorf("a text of %d bytes is sealed otherwise", n)
		}
	}
}

// The bytes behind those that are made unreadable stay, and are sealed.
func TestSealOfMoreThanIsMadeUnreadable(t *testing.T) {
	s := strings.Repeat("x", most) + "seen by all"
	got := seal.Seal("k", cipher.Block{1}, s)
	if got[ahead+most:len(got)-last] != "seen by all" {
		t.Error("the bytes behind did not stay")
	}
	changed := []byte(got)
	changed[ahead+most] ^= 1
	checkOpen(t, "k", string(changed), "", api.ErrMac)
	checkOpen(t, "k", got, s, api.OK)
}

func TestSealHangsOnAllThatIsGiven(t *testing.T) {
	const s = "some text of more than sixteen bytes"
	nonce := cipher.Block{3: 7}
	at := seal.Seal("key", nonce, s)
	for i, other := range []string{
		seal.Seal("kez", nonce, s),
		seal.Seal("ke", nonce, s),
		seal.Seal("key ", nonce, s),
		seal.Seal("key", cipher.Block{3: 6}, s),
		seal.Seal("key", cipher.Block{3: 7, 15: 1}, s),
		seal.Seal("key", nonce, s[1:]),
		seal.Seal("key", nonce, s+"\x00"),
		seal.Seal("key", nonce, "T"+s[1:]),
	} {
		if other == at || other[len(other)-last:] == at[len(at)-last:] {
			t.Errorf("%d: the same seal", i)
		}
	}
}

// P5.3

func TestOpenKnown(t *testing.T) {
	for _, c := range known {
		sealed, err := hex.DecodeString(c.sealed)
		if err != nil {
			t.Fatal(err)
		}
		checkOpen(t, c.key, string(sealed), c.s, api.OK)
	}
}

func TestOpenAtAllLengths(t *testing.T) {
	r := rand.New(rand.NewSource(3))
	for _, n := range lengths() {
		key, nonce, s := someText(r, r.Intn(100)), someBlock(r), someText(r, n)
		checkOpen(t, key, wantSealed(t, key, nonce, s), s, api.OK)
	}
}

// Of a short text no seal holds, by no key: it is short all the same.
func TestOpenOfShortTexts(t *testing.T) {
	r := rand.New(rand.NewSource(4))
	sealed := wantSealed(t, "k", cipher.Block{9}, "some text")
	for n := range more {
		for _, s := range []string{sealed[:n], sealed[len(sealed)-n:], strings.Repeat("\x00", n), someText(r, n)} {
			checkOpen(t, "k", s, "", api.ErrShort)
			checkOpen(t, "other", s, "", api.ErrShort)
		}
	}
}

// Nonce and seal may not share bytes: 32 to 47 bytes with a seal that holds are short.
func TestOpenOfShortTextsWithASealThatHolds(t *testing.T) {
	for n := range ahead {
		s := strings.Repeat("n", n)
		checkOpen(t, "k", s+wantMac(wantMac("k", "seal"), s), "", api.ErrShort)
	}
	s := strings.Repeat("n", ahead)
	checkOpen(t, "k", s+wantMac(wantMac("k", "seal"), s), "", api.OK)
}

func TestOpenOfBytesThatWereNeverSealed(t *testing.T) {
	r := rand.New(rand.NewSource(5))
	for n := more; n < 200; n++ {
		checkOpen(t, "k", someText(r, n), "", api.ErrMac)
		checkOpen(t, "", strings.Repeat("\x00", n), "", api.ErrMac)
	}
}

func TestOpenOfTurnedBits(t *testing.T) {
	for _, s := range []string{"", "some text", "some text of more than sixteen bytes"} {
		sealed := seal.Seal("k", cipher.Block{3: 7}, s)
		for i := range 8 * len(sealed) {
			changed := []byte(sealed)
			changed[i/8] ^= 1 << (i % 8)
			checkOpen(t, "k", string(changed), "", api.ErrMac)
		}
	}
}

func TestOpenOfBytesPutInLeftOutOrTurnedRound(t *testing.T) {
	sealed := seal.Seal("k", cipher.Block{1, 2, 3}, "some text of more than sixteen bytes")
	for i := range len(sealed) {
		checkOpen(t, "k", sealed[:i]+sealed[i+1:], "", api.ErrMac)
		checkOpen(t, "k", sealed[:i]+"\x00"+sealed[i:], "", api.ErrMac)
		if i > 0 && sealed[i:]+sealed[:i] != sealed {
			checkOpen(t, "k", sealed[i:]+sealed[:i], "", api.ErrMac)
		}
	}
	checkOpen(t, "k", sealed+"\x00", "", api.ErrMac)
	checkOpen(t, "k", sealed+sealed, "", api.ErrMac)
}

func TestOpenOfTextsThatAreCutShort(t *testing.T) {
	sealed := seal.Seal("k", cipher.Block{1}, strings.Repeat("some text ", 9))
	for n := range len(sealed) {
		want := api.ErrMac
		if n < more {
			want = api.ErrShort
		}
		checkOpen(t, "k", sealed[:n], "", want)
		checkOpen(t, "k", sealed[len(sealed)-n:], "", want)
	}
}

func TestOpenOfPartsOfTwoTexts(t *testing.T) {
	a := seal.Seal("k", cipher.Block{1}, "some text")
	b := seal.Seal("k", cipher.Block{2}, "more text")
	for _, s := range []string{
		b[:ahead] + a[ahead:],
		a[:ahead] + b[ahead:],
		a[:ahead] + b[ahead:len(b)-last] + a[len(a)-last:],
		a[:len(a)-last] + b[len(b)-last:],
	} {
		checkOpen(t, "k", s, "", api.ErrMac)
	}
}

func TestOpenByOtherKeys(t *testing.T) {
	sealed := seal.Seal("some key", cipher.Block{5}, "some text")
	a, b := seal.Keys("some key")
	for _, key := range []string{"", "some", "some keyz", "Some key", "\x00some key", string(a[:]), string(b[:])} {
		checkOpen(t, key, sealed, "", api.ErrMac)
	}
}

// Seals by a key that is not the second one, or of less than all that stands ahead.
func TestOpenOfOtherSeals(t *testing.T) {
	nonce := cipher.Block{5}
	made := wantMade(t, "k", nonce, "some text")
	all := string(nonce[:]) + made
	a, b := seal.Keys("k")
	second := string(b[:])
	checkOpen(t, "k", all+wantMac(second, all), "some text", api.OK)
	for i, mac := range []string{
		wantMac("k", all),
		wantMac(string(a[:]), all),
		wantMac(second, made),
		wantMac(second, string(nonce[:])),
		wantMac(second, made+string(nonce[:])),
		wantMac(second, "some text"),
		wantMac(second, string(nonce[:])+"some text"),
		wantMac(second, ""),
		wantMac(hex.EncodeToString(b[:]), all),
		strings.Repeat("\x00", last),
	} {
		if got, e := seal.Open("k", all+mac); got != "" || e != api.ErrMac {
			t.Errorf("seal %d: %q, error %d", i, got, e)
		}
	}
}

// By digest's promise such keys seal alike, with bytes 0 up to the 64th; and a long key seals as its hash.
func TestKeysThatSealAlike(t *testing.T) {
	nonce := cipher.Block{5}
	sealed := seal.Seal("k", nonce, "some text")
	checkOpen(t, "k\x00", sealed, "some text", api.OK)
	checkOpen(t, "k"+strings.Repeat("\x00", 63), sealed, "some text", api.OK)
	checkOpen(t, "k"+strings.Repeat("\x00", 64), sealed, "", api.ErrMac)
	long := strings.Repeat("x", 65)
	h := sha256.Sum256([]byte(long))
	checkOpen(t, string(h[:]), seal.Seal(long, nonce, "some text"), "some text", api.OK)
}

func TestNonce(t *testing.T) {
	r := rand.New(rand.NewSource(6))
	for n := range 100 {
		s := someText(r, n)
		var want cipher.Block
		if n >= ahead {
			want = cipher.Block([]byte(s[:ahead]))
		}
		if got, is := seal.Nonce(s); got != want || is != (n >= ahead) {
			t.Errorf("Nonce of %x = %x, %t", s, got, is)
		}
	}
}

func TestNonceKnown(t *testing.T) {
	zeros, all := strings.Repeat("\x00", ahead), filled(255)
	for _, c := range []struct {
		s    string
		want cipher.Block
		is   bool
	}{
		{"", cipher.Block{}, false},
		{"a", cipher.Block{}, false},
		{zeros[1:], cipher.Block{}, false},
		{string(all[1:]), cipher.Block{}, false},
		{zeros, cipher.Block{}, true},
		{zeros + "a", cipher.Block{}, true},
		{"a" + zeros, cipher.Block{'a'}, true},
		{string(all[:]), all, true},
		{string(all[:]) + "a", all, true},
	} {
		if got, is := seal.Nonce(c.s); got != c.want || is != c.is {
			t.Errorf("Nonce(%x) = %x, %t", c.s, got, is)
		}
	}
}

func TestNonceOfWhatWasSealed(t *testing.T) {
	r := rand.New(rand.NewSource(7))
	for _, nonce := range []cipher.Block{{}, {15: 1}, {1}, filled(255), someBlock(r), someBlock(r)} {
		if got, is := seal.Nonce(seal.Seal("k", nonce, "")); got != nonce || !is {
			t.Errorf("Nonce = %x, %t, want %x", got, is, nonce)
		}
	}
}

// P5.4

func TestWhatWasSealedIsOpened(t *testing.T) {
	r := rand.New(rand.NewSource(8))
	for _, n := range lengths() {
		for _, nonce := range []cipher.Block{{}, filled(255), someBlock(r)} {
			key, s := someText(r, r.Intn(140)), someText(r, n)
			checkOpen(t, key, seal.Seal(key, nonce, s), s, api.OK)
		}
	}
}

func TestSealedTwiceIsOpenedTwice(t *testing.T) {
	twice := seal.Seal("outer", cipher.Block{1}, seal.Seal("inner", cipher.Block{2}, "some text"))
	once, e := seal.Open("outer", twice)
	if e != api.OK {
		t.Fatal(e)
	}
	checkOpen(t, "inner", once, "some text", api.OK)
	checkOpen(t, "inner", twice, "", api.ErrMac)
}

// R3, R5

func TestAnswersAreTheSame(t *testing.T) {
	nonce := filled(255)
	same := nonce
	first, second := seal.Keys("k")
	sealed := seal.Seal("k", nonce, "some text")
	var wait sync.WaitGroup
	for range 8 {
		wait.Go(func() {
			for i := range 20 {
				seal.Open("k", seal.Seal("other", cipher.Block{byte(i)}, "other text"))
				a, b := seal.Keys("k")
				s, e := seal.Open("k", sealed)
				if a != first || b != second || s != "some text" || e != api.OK || seal.Seal("k", nonce, "some text") != sealed {
					t.Error("another answer to the same call")
				}
			}
		})
	}
	wait.Wait()
	if nonce != same {
		t.Error("an argument was changed")
	}
}

func BenchmarkSealAndOpenABlock(b *testing.B) {
	s := strings.Repeat("x", api.BlockSize)
	for b.Loop() {
		seal.Open("k", seal.Seal("k", cipher.Block{1}, s))
	}
}
