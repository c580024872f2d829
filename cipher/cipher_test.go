package cipher_test

import (
	"crypto/aes"
	"encoding/hex"
	"fmt"
	"math/rand"
	"sync"
	"testing"

	"hanaper/api"
	"hanaper/cipher"
)

const appendixKey = "603deb1015ca71be2b73aef0857d77811f352c073b6108d72d9810a30914dff4"

// product multiplies by the whole product of degree 14 at most, and divides at last: another way than the program's.
func product(a, b byte) byte {
	whole := 0
	for i := range 8 {
		if b>>i&1 == 1 {
			whole ^= int(a) << i
		}
	}
	for i := 14; i >= 8; i-- {
		if whole>>i&1 == 1 {
			whole ^= 0x11b << (i - 8)
		}
	}
	return byte(whole)
}

// keyOf and blockOf read digits of base 16.
func keyOf(t *testing.T, s string) api.Hash {
	return api.Hash(bytesOf(t, s))
}

func blockOf(t *testing.T, s string) cipher.Block {
	return cipher.Block(bytesOf(t, s))
}

func bytesOf(t *testing.T, s string) []byte {
	t.Helper()
	b, err := hex.DecodeString(s)
	if err != nil {
		t.Fatal(err)
	}
	return b
}

func someKey(r *rand.Rand) api.Hash {
	var h api.Hash
	r.Read(h[:])
	return h
}

func someBlock(r *rand.Rand) cipher.Block {
	var b cipher.Block
	r.Read(b[:])
	return b
}

// someKeys are such as Expand never made.
func someKeys(r *rand.Rand) cipher.Keys {
	var k cipher.Keys
	for i := range k {
		k[i] = r.Uint32()
	}
	return k
}

// edgeKeys and edgeBlocks have no bit, all bits, or one bit at each place.
func edgeKeys() []api.Hash {
	keys := make([]api.Hash, 258)
	for i := range 256 {
		keys[i][i/8] = 1 << (i % 8)
	}
	for i := range keys[256] {
		keys[256][i] = 255
	}
	return keys
}

func edgeBlocks() []cipher.Block {
	blocks := make([]cipher.Block, 130)
	for i := range 128 {
		blocks[i][i/8] = 1 << (i % 8)
	}
	for i := range blocks[128] {
		blocks[128][i] = 255
	}
	return blocks
}

// P2.1

func TestTimesOfAllBytes(t *testing.T) {
	for a := range 256 {
		for b := range 256 {
			got, want := cipher.Times(byte(a), byte(b)), product(byte(a), byte(b))
			if got != want {
				t.Errorf("Times(%d, %d) = %d, want %d", a, b, got, want)
			}
		}
	}
}

func TestTimesKnown(t *testing.T) {
	for _, c := range []struct{ a, b, want byte }{
		{0, 0, 0}, {0, 1, 0}, {0, 255, 0}, {1, 1, 1}, {1, 255, 255},
		{2, 0x40, 0x80}, {2, 0x80, 0x1b}, {2, 0x81, 0x19}, {3, 0x80, 0x9b}, {0x80, 0x80, 0x9a},
		{0x57, 0x13, 0xfe}, {0x57, 0x83, 0xc1}, {0x53, 0xca, 1}, {255, 255, 0x13},
	} {
		if got := cipher.Times(c.a, c.b); got != c.want {
			t.Errorf("Times(%#x, %#x) = %#x, want %#x", c.a, c.b, got, c.want)
		}
		if got := cipher.Times(c.b, c.a); got != c.want {
			t.Errorf("Times(%#x, %#x) = %#x, want %#x", c.b, c.a, got, c.want)
		}
	}
}

// P2.2

// wantBox searches for the byte that makes 1, and adds bit by bit.
func wantBox() [256]byte {
	var box [256]byte
	for a := range box {
		n := 0
		for b := range 256 {
			if product(byte(a), byte(b)) == 1 {
				n = b
			}
		}
		for i := range 8 {
			bit := 99 >> i & 1
			for _, back := range []int{0, 1, 2, 3, 4} {
				bit ^= n >> ((i + 8 - back) % 8) & 1
			}
			box[a] |= byte(bit << i)
		}
	}
	return box
}

func TestBoxOfAllBytes(t *testing.T) {
	got, want := cipher.Box(), wantBox()
	for a := range want {
		if got[a] != want[a] {
			t.Errorf("Box at %d: %d, want %d", a, got[a], want[a])
		}
	}
}

func TestBoxKnown(t *testing.T) {
	box := cipher.Box()
	for a, want := range map[int]byte{0: 99, 1: 124, 2: 119, 83: 237, 0x10: 0xca, 0x52: 0, 0x8f: 0x73, 0xfe: 0xbb, 0xff: 0x16} {
		if box[a] != want {
			t.Errorf("Box at %d: %d, want %d", a, box[a], want)
		}
	}
}

// P2.3

// wantKeys makes the words byte by byte.
func wantKeys(key api.Hash) cipher.Keys {
	box := wantBox()
	powers := []byte{1, 2, 4, 8, 16, 32, 64}
	var words [60][4]byte
	for i := range words {
		if i < 8 {
			copy(words[i][:], key[4*i:])
			continue
		}
		t := words[i-1]
		if i%8 == 0 {
			t = [4]byte{box[t[1]] ^ powers[i/8-1], box[t[2]], box[t[3]], box[t[0]]}
		} else if i%8 == 4 {
			t = [4]byte{box[t[0]], box[t[1]], box[t[2]], box[t[3]]}
		}
		for j := range t {
			words[i][j] = t[j] ^ words[i-8][j]
		}
	}
	var k cipher.Keys
	for i, w := range words {
		k[i] = uint32(w[0])<<24 | uint32(w[1])<<16 | uint32(w[2])<<8 | uint32(w[3])
	}
	return k
}

func TestExpandKnown(t *testing.T) {
	k := cipher.Expand(keyOf(t, appendixKey))
	for i, want := range map[int]uint32{
		0: 0x603deb10, 7: 0x0914dff4, 8: 0x9ba35411, 9: 0x8e6925af, 11: 0x2067fcde,
		12: 0xa8b09c1a, 13: 0x93d194cd, 15: 0xb75d5b9a, 16: 0xd59aecb8, 59: 0x706c631e,
	} {
		if k[i] != want {
			t.Errorf("word %d: %08x, want %08x", i, k[i], want)
		}
	}
}

func TestExpandAtEdges(t *testing.T) {
	for _, key := range edgeKeys() {
		checkKeys(t, key)
	}
}

func TestExpandOfManyKeys(t *testing.T) {
	r := rand.New(rand.NewSource(1))
	for range 200 {
		checkKeys(t, someKey(r))
	}
}

func checkKeys(t *testing.T, key api.Hash) {
	t.Helper()
	got, want := cipher.Expand(key), wantKeys(key)
	for i := range want {
		if got[i] != want[i] {
			t.Fatalf("key %x: word %d: %08x, want %08x", key, i, got[i], want[i])
		}
	}
}

// P2.4

func TestEncryptKnown(t *testing.T) {
	for _, c := range []struct{ key, plain, want string }{
		{"000102030405060708090a0b0c0d0e0f101112131415161718191a1b1c1d1e1f", "00112233445566778899aabbccddeeff", "8ea2b7ca516745bfeafc49904b496089"},
		{appendixKey, "6bc1bee22e409f96e93d7e117393172a", "f3eed1bdb5d2a03c064b5a7e3db181f8"},
		{appendixKey, "ae2d8a571e03ac9c9eb76fac45af8e51", "591ccb10d410ed26dc5ba74a31362870"},
		{appendixKey, "30c81c46a35ce411e5fbc1191a0a52ef", "b6ed21b99ca6f4f9f153e7b1beafed1d"},
		{appendixKey, "f69f2445df4f9b17ad2b417be66c3710", "23304b7a39f9f3ff067d8d8f9e24ecc7"},
	} {
		got := cipher.Encrypt(cipher.Expand(keyOf(t, c.key)), blockOf(t, c.plain))
		if got != blockOf(t, c.want) {
			t.Errorf("key %s, block %s: %x, want %s", c.key, c.plain, got, c.want)
		}
	}
}

func TestEncryptAtEdges(t *testing.T) {
	for _, key := range edgeKeys() {
		checkAES(t, key, cipher.Block{})
	}
	for _, b := range edgeBlocks() {
		checkAES(t, api.Hash{}, b)
	}
}

func TestEncryptOfManyBlocks(t *testing.T) {
	r := rand.New(rand.NewSource(2))
	for range 500 {
		checkAES(t, someKey(r), someBlock(r))
	}
}

func checkAES(t *testing.T, key api.Hash, b cipher.Block) {
	t.Helper()
	c, err := aes.NewCipher(key[:])
	if err != nil {
		t.Fatal(err)
	}
	var want cipher.Block
	c.Encrypt(want[:], b[:])
	if got := cipher.Encrypt(cipher.Expand(key), b); got != want {
		t.Fatalf("key %x, block %x: %x, want %x", key, b, got, want)
	}
}

// square is a block's rows.
type square [4][4]byte

func rowsOf(b cipher.Block) square {
	var s square
	for i, x := range b {
		s[i%4][i/4] = x
	}
	return s
}

// wantBlock goes by the chapter's rounds, row by row.
func wantBlock(k cipher.Keys, b cipher.Block, box *[256]byte) cipher.Block {
	s := rowsOf(b)
	s.add(&k, 0)
	for r := 1; r <= 14; r++ {
		var t square
		for j := range 4 {
			for c := range 4 {
				t[j][c] = box[s[j][(c+j)%4]]
			}
		}
		if r < 14 {
			t.mix(&square{{2, 3, 1, 1}, {1, 2, 3, 1}, {1, 1, 2, 3}, {3, 1, 1, 2}})
		}
		t.add(&k, r)
		s = t
	}
	return s.block()
}

func (s *square) add(k *cipher.Keys, r int) {
	for j := range 4 {
		for c := range 4 {
			s[j][c] ^= byte(k[4*r+c] >> (24 - 8*j))
		}
	}
}

func (s *square) mix(by *square) {
	old := *s
	for j := range 4 {
		for c := range 4 {
			s[j][c] = 0
			for i := range 4 {
				s[j][c] ^= product(by[j][i], old[i][c])
			}
		}
	}
}

func (s *square) block() cipher.Block {
	var b cipher.Block
	for i := range b {
		b[i] = s[i%4][i/4]
	}
	return b
}

// Keys that Expand never made are taken as they are.
func TestEncryptByAnyKeys(t *testing.T) {
	r := rand.New(rand.NewSource(3))
	box := wantBox()
	var all cipher.Keys
	for i := range all {
		all[i] = 1<<32 - 1
	}
	keys := []cipher.Keys{{}, all}
	for i := range all {
		var one cipher.Keys
		one[i] = 0x80402010
		keys = append(keys, one)
	}
	for range 100 {
		keys = append(keys, someKeys(r))
	}
	for _, k := range keys {
		b := someBlock(r)
		if got, want := cipher.Encrypt(k, b), wantBlock(k, b, &box); got != want {
			t.Fatalf("keys %x, block %x: %x, want %x", k, b, got, want)
		}
	}
}

// P2.5

func TestBoxHasEachByteOnce(t *testing.T) {
	places := map[byte]int{}
	for a, x := range cipher.Box() {
		if other, twice := places[x]; twice {
			t.Errorf("Box has %d at %d and at %d", x, other, a)
		}
		places[x] = a
	}
	if len(places) != 256 {
		t.Errorf("Box has %d bytes", len(places))
	}
}

// undone goes back from what a block became to the block.
func undone(k cipher.Keys, b cipher.Block, back *[256]byte) cipher.Block {
	s := rowsOf(b)
	for r := 14; r >= 1; r-- {
		s.add(&k, r)
		if r < 14 {
			s.mix(&square{{14, 11, 13, 9}, {9, 14, 11, 13}, {13, 9, 14, 11}, {11, 13, 9, 14}})
		}
		var t square
		for j := range 4 {
			for c := range 4 {
				t[j][(c+j)%4] = back[s[j][c]]
			}
		}
		s = t
	}
	s.add(&k, 0)
	return s.block()
}

// What can be undone was made of one block alone.
func TestEncryptedBlocksCanBeUndone(t *testing.T) {
	r := rand.New(rand.NewSource(4))
	var back [256]byte
	for a, x := range cipher.Box() {
		back[x] = byte(a)
	}
	for range 200 {
		b := someBlock(r)
		for _, k := range []cipher.Keys{cipher.Expand(someKey(r)), someKeys(r)} {
			if got := undone(k, cipher.Encrypt(k, b), &back); got != b {
				t.Fatalf("keys %x, block %x: undone %x", k, b, got)
			}
		}
	}
}

func TestNoTwoBlocksAreMadeTheSame(t *testing.T) {
	r := rand.New(rand.NewSource(5))
	for _, k := range []cipher.Keys{{}, cipher.Expand(api.Hash{}), cipher.Expand(someKey(r)), someKeys(r)} {
		made := map[cipher.Block]cipher.Block{}
		for _, b := range distinctBlocks() {
			c := cipher.Encrypt(k, b)
			if other, twice := made[c]; twice {
				t.Fatalf("blocks %x and %x are made the same", other, b)
			}
			made[c] = b
		}
	}
}

// distinctBlocks have one byte other than 0, of each value at each place, or none.
func distinctBlocks() []cipher.Block {
	blocks := []cipher.Block{{}}
	for i := range 16 {
		for x := 1; x < 256; x++ {
			var b cipher.Block
			b[i] = byte(x)
			blocks = append(blocks, b)
		}
	}
	return blocks
}

// R3, R5

func TestArgumentsStayAndAnswersAreTheSame(t *testing.T) {
	r := rand.New(rand.NewSource(6))
	key, b := someKey(r), someBlock(r)
	k := cipher.Expand(key)
	first := fmt.Sprint(key, k, b)
	c := cipher.Encrypt(k, b)
	box := cipher.Box()
	box[0]++ // an answer is the caller's own
	var wait sync.WaitGroup
	for range 8 {
		wait.Go(func() {
			for i := range 20 {
				cipher.Encrypt(k, cipher.Block{byte(i)})
				if cipher.Expand(key) != k || cipher.Encrypt(k, b) != c || cipher.Box() == box {
					t.Error("another answer to the same call")
				}
			}
		})
	}
	wait.Wait()
	if fmt.Sprint(key, k, b) != first {
		t.Error("an argument was changed")
	}
}

func BenchmarkEncrypt(b *testing.B) {
	k := cipher.Expand(api.Hash{})
	for b.Loop() {
		cipher.Encrypt(k, cipher.Block{})
	}
}

func BenchmarkExpand(b *testing.B) {
	for b.Loop() {
		cipher.Expand(api.Hash{})
	}
}
