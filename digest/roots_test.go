package digest

import (
	"math/big"
	"testing"
)

// P1.2: K, as whole roots of primes.
func TestRoots(t *testing.T) {
	k := roots()
	n := 0
	for p := int64(2); n < len(k); p++ {
		if !big.NewInt(p).ProbablyPrime(0) {
			continue
		}
		r := new(big.Int).SetUint64(root(uint64(p)))
		if !fits(r, p) || fits(r.Add(r, big.NewInt(1)), p) {
			t.Errorf("root of %d: %d", p, root(uint64(p)))
		}
		if k[n] != uint32(root(uint64(p))) {
			t.Errorf("K of %d: %x, want the root of %d", n, k[n], p)
		}
		n++
	}
	if k[0] != 0x428a2f98 || k[1] != 0x71374491 || k[63] != 0xc67178f2 {
		t.Errorf("%x, %x, %x", k[0], k[1], k[63])
	}
}

// A number that is a cube has a whole root.
func TestRootOfCubes(t *testing.T) {
	for n := range uint64(8) {
		if got := root(n * n * n); got != n<<32 {
			t.Errorf("root of %d: %d", n*n*n, got)
		}
	}
}

func fits(r *big.Int, p int64) bool {
	cube := new(big.Int).Exp(r, big.NewInt(3), nil)
	return cube.Cmp(new(big.Int).Lsh(big.NewInt(p), 96)) <= 0
}

func BenchmarkSum(b *testing.B) {
	for b.Loop() {
		Sum("abc")
	}
}
