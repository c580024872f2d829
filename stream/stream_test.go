package stream_test

import (
	"crypto/aes"
	library "crypto/cipher"
	"encoding/hex"
	"math"
	"math/big"
	"math/rand"
	"strings"
	"sync"
	"testing"

	"hanaper/api"
	"hanaper/cipher"
	"hanaper/stream"
)

const (
	most          = 65536
	appendixKey   = "603deb1015ca71be2b73aef0857d77811f352c073b6108d72d9810a30914dff4"
	appendixPlain = "6bc1bee22e409f96e93d7e117393172aae2d8a571e03ac9c9eb76fac45af8e5130c81c46a35ce411e5fbc1191a0a52eff69f2445df4f9b17ad2b417be66c3710"
	appendixMade  = "601ec313775789a5b7a7f504bbf3d228f443e3ca4d62b59aca84e990cacaf5c52b0930daa23de94ce87017ba2d84988ddfc9c58db67aada613c2dd08457941a6"
)

// lengths are those round whole blocks, and round the last byte of a pad.
func lengths() []int {
	ns := []int{100, 255, 256, 257, 4096, most - 17, most - 16, most - 15, most - 1, most}
	for n := range 70 {
		ns = append(ns, n)
	}
	return ns
}

func bytesOf(t *testing.T, s string) []byte {
	t.Helper()
	b, err := hex.DecodeString(s)
	if err != nil {
		t.Fatal(err)
	}
	return b
}

// filled is a block with x in its bytes from place i on.
func filled(x byte, i int) cipher.Block {
	var b cipher.Block
	for ; i < len(b); i++ {
		b[i] = x
	}
	return b
}

func someKey(r *rand.Rand) api.Hash {
	var h api.Hash
	r.Read(h[:])
	return h
}

func someBlock(r *rand.Rand) cipher.Block {
	var b cipher.Block
	r.Read(b[:])
	return b
}

func someText(r *rand.Rand, n int) string {
	b := make([]byte, n)
	r.Read(b)
	return string(b)
}

// nonces begin as all others do, or so that the count goes on over a part's end, or over the whole one's.
func nonces(r *rand.Rand) []cipher.Block {
	all := []cipher.Block{{}, someBlock(r), {15: 254}, {14: 255, 15: 255}}
	for i := range 16 {
		all = append(all, filled(255, i))
		last := filled(255, i)
		last[15] = 253
		all = append(all, last)
	}
	return all
}

// P3.1

// wantNext adds whole numbers.
func wantNext(c cipher.Block, n uint64) cipher.Block {
	sum := new(big.Int).SetBytes(c[:])
	sum.Add(sum, new(big.Int).SetUint64(n))
	sum.Mod(sum, new(big.Int).Lsh(big.NewInt(1), 128))
	var want cipher.Block
	sum.FillBytes(want[:])
	return want
}

func TestNextKnown(t *testing.T) {
	for _, c := range []struct {
		c    cipher.Block
		n    uint64
		want cipher.Block
	}{
		{cipher.Block{}, 0, cipher.Block{}},
		{cipher.Block{}, 1, cipher.Block{15: 1}},
		{cipher.Block{}, 256, cipher.Block{14: 1}},
		{cipher.Block{}, 0x0102030405060708, cipher.Block{8: 1, 9: 2, 10: 3, 11: 4, 12: 5, 13: 6, 14: 7, 15: 8}},
		{cipher.Block{}, math.MaxUint64, filled(255, 8)},
		{cipher.Block{15: 1}, math.MaxUint64, cipher.Block{7: 1}},
		{cipher.Block{15: 255}, 1, cipher.Block{14: 1}},
		{filled(255, 8), 1, cipher.Block{7: 1}},
		{filled(255, 8), math.MaxUint64, cipher.Block{7: 1, 8: 255, 9: 255, 10: 255, 11: 255, 12: 255, 13: 255, 14: 255, 15: 254}},
		{filled(255, 1), 1, cipher.Block{0: 1}},
		{filled(255, 0), 0, filled(255, 0)},
		{filled(255, 0), 1, cipher.Block{}},
		{filled(255, 0), 2, cipher.Block{15: 1}},
		{cipher.Block{0: 1, 15: 9}, 1, cipher.Block{0: 1, 15: 10}},
	} {
		if got := stream.Next(c.c, c.n); got != c.want {
			t.Errorf("Next(%x, %d) = %x, want %x", c.c, c.n, got, c.want)
		}
	}
}

func TestNextOfManyBlocks(t *testing.T) {
	r := rand.New(rand.NewSource(1))
	for range 200 {
		for _, c := range nonces(r) {
			for _, n := range []uint64{0, 1, 255, 256, r.Uint64(), r.Uint64() >> 32, math.MaxUint64 - uint64(r.Intn(300))} {
				if got, want := stream.Next(c, n), wantNext(c, n); got != want {
					t.Fatalf("Next(%x, %d) = %x, want %x", c, n, got, want)
				}
			}
		}
	}
}

// P3.2

// wantPad is made by Go's own library.
func wantPad(t *testing.T, key api.Hash, nonce cipher.Block, n int) string {
	t.Helper()
	c, err := aes.NewCipher(key[:])
	if err != nil {
		t.Fatal(err)
	}
	pad := make([]byte, n)
	library.NewCTR(c, nonce[:]).XORKeyStream(pad, pad)
	return string(pad)
}

func checkPad(t *testing.T, key api.Hash, nonce cipher.Block, n int) {
	t.Helper()
	if stream.Pad(key, nonce, n) != wantPad(t, key, nonce, n) {
		t.Errorf("key %x, nonce %x: another pad of %d bytes", key, nonce, n)
	}
}

func TestPadIsOfBlocks(t *testing.T) {
	key, nonce := api.Hash{0: 1, 31: 2}, cipher.Block{15: 254}
	keys := cipher.Expand(key)
	want := ""
	for _, c := range []cipher.Block{{15: 254}, {15: 255}, {14: 1}, {14: 1, 15: 1}} {
		made := cipher.Encrypt(keys, c)
		want += string(made[:])
	}
	for n := range len(want) + 1 {
		if got := stream.Pad(key, nonce, n); got != want[:n] {
			t.Errorf("%d bytes: %x, want %x", n, got, want[:n])
		}
	}
}

func TestPadAtAllLengths(t *testing.T) {
	r := rand.New(rand.NewSource(2))
	for _, n := range lengths() {
		checkPad(t, someKey(r), someBlock(r), n)
	}
}

func TestPadAtTheEndsOfTheCount(t *testing.T) {
	r := rand.New(rand.NewSource(3))
	for _, nonce := range nonces(r) {
		checkPad(t, someKey(r), nonce, 100)
	}
	checkPad(t, someKey(r), cipher.Block{14: 255, 15: 1}, most) // the count goes on over two bytes' end
}

func TestPadOfNothing(t *testing.T) {
	for _, n := range []int{0, -1, -16, -most, math.MinInt} {
		if got := stream.Pad(api.Hash{1}, cipher.Block{1}, n); got != "" {
			t.Errorf("Pad of %d bytes: %d bytes", n, len(got))
		}
	}
}

func TestPadEnds(t *testing.T) {
	key, nonce := api.Hash{7}, cipher.Block{9}
	want := wantPad(t, key, nonce, most)
	for _, n := range []int{most + 1, most + 16, 2 * most, 1 << 32, 1<<32 + 1, math.MaxInt} {
		if got := stream.Pad(key, nonce, n); got != want {
			t.Errorf("Pad of %d bytes: %d bytes, or others", n, len(got))
		}
	}
}

// P3.3

func TestApplyKnown(t *testing.T) {
	key := api.Hash(bytesOf(t, appendixKey))
	nonce := cipher.Block(bytesOf(t, "f0f1f2f3f4f5f6f7f8f9fafbfcfdfeff"))
	plain, want := string(bytesOf(t, appendixPlain)), string(bytesOf(t, appendixMade))
	for n := range len(plain) + 1 {
		if got := stream.Apply(key, nonce, plain[:n]); got != want[:n] {
			t.Errorf("%d bytes: %x, want %x", n, got, want[:n])
		}
	}
}

func TestApplyAtAllLengths(t *testing.T) {
	r := rand.New(rand.NewSource(4))
	for _, n := range lengths() {
		checkApply(t, someKey(r), someBlock(r), someText(r, n))
	}
}

func checkApply(t *testing.T, key api.Hash, nonce cipher.Block, s string) {
	t.Helper()
	got, pad := stream.Apply(key, nonce, s), wantPad(t, key, nonce, len(s))
	if len(got) != len(s) {
		t.Fatalf("%d bytes came of %d", len(got), len(s))
	}
	for i := range len(s) {
		if got[i] != s[i]^pad[i] {
			t.Fatalf("%d bytes: byte %d is %d, want %d", len(s), i, got[i], s[i]^pad[i])
		}
	}
}

func TestApplyToBytesThatAreNoText(t *testing.T) {
	key, nonce := api.Hash{3}, cipher.Block{4}
	for _, s := range []string{"", "\x00", "\x80", "\xff", "\xc3\x28", "\xe2\x82", "ä€", strings.Repeat("\x00", 40), strings.Repeat("\xff", 40)} {
		checkApply(t, key, nonce, s)
	}
}

func TestApplyLeavesWhatLiesBehindThePad(t *testing.T) {
	r := rand.New(rand.NewSource(5))
	key, nonce := someKey(r), someBlock(r)
	s := someText(r, 2*most+5)
	want := stream.Apply(key, nonce, s[:most])
	for _, n := range []int{most, most + 1, most + 16, most + 1000, 2*most + 5} {
		if got := stream.Apply(key, nonce, s[:n]); got != want+s[most:n] {
			t.Errorf("%d bytes: another text", n)
		}
	}
}

// P3.4

func TestAppliedTwiceIsAsItWas(t *testing.T) {
	r := rand.New(rand.NewSource(6))
	for _, n := range append(lengths(), most+1, most+40, 2*most) {
		key, nonce, s := someKey(r), someBlock(r), someText(r, n)
		once := stream.Apply(key, nonce, s)
		if twice := stream.Apply(key, nonce, once); len(once) != n || twice != s {
			t.Errorf("%d bytes: once %d bytes, twice another text", n, len(once))
		}
	}
}

// By another key, or another nonce, it is not as it was.
func TestAnotherKeyOrNonce(t *testing.T) {
	key, nonce, s := api.Hash{1}, cipher.Block{2}, strings.Repeat("some text ", 5)
	once := stream.Apply(key, nonce, s)
	for i := range key {
		other := key
		other[i] ^= 1
		if stream.Apply(other, nonce, once) == s {
			t.Errorf("byte %d of the key does not count", i)
		}
	}
	for i := range nonce {
		other := nonce
		other[i] ^= 1
		if stream.Apply(key, other, once) == s {
			t.Errorf("byte %d of the nonce does not count", i)
		}
	}
}

// R3, R5

func TestAnswersAreTheSame(t *testing.T) {
	r := rand.New(rand.NewSource(7))
	key, nonce, s := someKey(r), someBlock(r), someText(r, 300)
	sameKey, sameNonce := key, nonce
	next, pad, made := stream.Next(nonce, 5), stream.Pad(key, nonce, 300), stream.Apply(key, nonce, s)
	var wait sync.WaitGroup
	for range 8 {
		wait.Go(func() {
			for i := range 20 {
				stream.Pad(api.Hash{byte(i)}, nonce, 33)
				if stream.Next(nonce, 5) != next || stream.Pad(key, nonce, 300) != pad || stream.Apply(key, nonce, s) != made {
					t.Error("another answer to the same call")
				}
			}
		})
	}
	wait.Wait()
	if key != sameKey || nonce != sameNonce {
		t.Error("an argument was changed")
	}
}

func BenchmarkApplyToTheMost(b *testing.B) {
	s := strings.Repeat("x", most)
	for b.Loop() {
		stream.Apply(api.Hash{}, cipher.Block{}, s)
	}
}
