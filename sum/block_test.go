package sum

import (
	"math/big"
	"testing"

	"cartulary/api"
)

// firstPrimes finds n primes by division.
func firstPrimes(n int) []int64 {
	var primes []int64
	for c := int64(2); len(primes) < n; c++ {
		prime := true
		for _, p := range primes {
			prime = prime && c%p != 0
		}
		if prime {
			primes = append(primes, c)
		}
	}
	return primes
}

// cubeRootBits is the first 32 bits behind the point of the cube root of n.
func cubeRootBits(n int64) uint32 {
	scaled := new(big.Int).Lsh(big.NewInt(n), 3*32)
	root := new(big.Int)
	for bit := 40; bit >= 0; bit-- {
		next := new(big.Int).SetBit(root, bit, 1)
		if new(big.Int).Exp(next, big.NewInt(3), nil).Cmp(scaled) <= 0 {
			root = next
		}
	}
	return uint32(root.Uint64())
}

func TestP1_2Constants(t *testing.T) {
	for i, p := range firstPrimes(64) {
		if want := cubeRootBits(p); roundConstants[i] != want {
			t.Errorf("k%d = %08x, want %08x", i, roundConstants[i], want)
		}
	}
}

// The block of "abc" and the Heads behind it are those of the standard's own example.
func TestP1_2OneBlock(t *testing.T) {
	block := "abc\x80" + string(make([]byte, 59)) + "\x18"
	s, e := Add(Begin(), block)
	want := api.State{Many: 64, Heads: [8]uint32{
		0xba7816bf, 0x8f01cfea, 0x414140de, 0x5dae2223, 0xb00361a3, 0x96177a9c, 0xb410ff61, 0xf20015ad,
	}}
	if e != api.OK || s != want {
		t.Errorf("Heads = %08x, %d", s.Heads, e)
	}
}

// Words in which all bits are set make every addition wrap around.
func TestP1_2WordsWrapAround(t *testing.T) {
	heads := [8]uint32{}
	block := make([]byte, 64)
	for i := range block {
		block[i] = 0xff
	}
	for i := range heads {
		heads[i] = 1<<32 - 1
	}
	for many := 0; many <= 64*20; many += 64 {
		s := api.State{Heads: heads, Many: many}
		next, e := Add(s, string(block))
		if e != api.OK {
			t.Fatalf("Add: %d", e)
		}
		got, f := End(next)
		if f != api.OK || got != reference(t, s, string(block)) {
			t.Errorf("behind %d bytes: %x, %d", many, got, f)
		}
		heads = next.Heads
	}
}
