package sum

import "math/bits"

const blockSize = 64

// roundConstants are the first 32 bits of the fractional parts of the cube roots of the first 64 primes.
var roundConstants = [64]uint32{
	0x428a2f98, 0x71374491, 0xb5c0fbcf, 0xe9b5dba5, 0x3956c25b, 0x59f111f1, 0x923f82a4, 0xab1c5ed5,
	0xd807aa98, 0x12835b01, 0x243185be, 0x550c7dc3, 0x72be5d74, 0x80deb1fe, 0x9bdc06a7, 0xc19bf174,
	0xe49b69c1, 0xefbe4786, 0x0fc19dc6, 0x240ca1cc, 0x2de92c6f, 0x4a7484aa, 0x5cb0a9dc, 0x76f988da,
	0x983e5152, 0xa831c66d, 0xb00327c8, 0xbf597fc7, 0xc6e00bf3, 0xd5a79147, 0x06ca6351, 0x14292967,
	0x27b70a85, 0x2e1b2138, 0x4d2c6dfc, 0x53380d13, 0x650a7354, 0x766a0abb, 0x81c2c92e, 0x92722c85,
	0xa2bfe8a1, 0xa81a664b, 0xc24b8b70, 0xc76c51a3, 0xd192e819, 0xd6990624, 0xf40e3585, 0x106aa070,
	0x19a4c116, 0x1e376c08, 0x2748774c, 0x34b0bcb5, 0x391c0cb3, 0x4ed8aa4a, 0x5b9cca4f, 0x682e6ff3,
	0x748f82ee, 0x78a5636f, 0x84c87814, 0x8cc70208, 0x90befffa, 0xa4506ceb, 0xbef9a3f7, 0xc67178f2,
}

// processBlocks expects whole blocks, and leaves bytes behind them out.
func processBlocks(heads [8]uint32, b string) [8]uint32 {
	for len(b) >= blockSize {
		heads = processBlock(heads, blockWords(b[:blockSize]))
		b = b[blockSize:]
	}
	return heads
}

// blockWords is the sixteen words of a block and the 48 that are made of them.
func blockWords(block string) [64]uint32 {
	var w [64]uint32
	for i := range 16 {
		p := block[4*i : 4*i+4]
		w[i] = uint32(p[0])<<24 | uint32(p[1])<<16 | uint32(p[2])<<8 | uint32(p[3])
	}
	for i := 16; i < 64; i++ {
		s := rotated(w[i-15], 7) ^ rotated(w[i-15], 18) ^ w[i-15]>>3
		t := rotated(w[i-2], 17) ^ rotated(w[i-2], 19) ^ w[i-2]>>10
		w[i] = w[i-16] + s + w[i-7] + t
	}
	return w
}

func processBlock(heads [8]uint32, w [64]uint32) [8]uint32 {
	a, b, c, d := heads[0], heads[1], heads[2], heads[3]
	e, f, g, h := heads[4], heads[5], heads[6], heads[7]
	for i := range 64 {
		x := h + (rotated(e, 6) ^ rotated(e, 11) ^ rotated(e, 25)) + (e&f ^ ^e&g) + roundConstants[i] + w[i]
		y := (rotated(a, 2) ^ rotated(a, 13) ^ rotated(a, 22)) + (a&b ^ a&c ^ b&c)
		h, g, f, e, d, c, b, a = g, f, e, d+x, c, b, a, x+y
	}
	for i, v := range [8]uint32{a, b, c, d, e, f, g, h} {
		heads[i] += v
	}
	return heads
}

// rotated turns to the right, as the document counts; the library counts to the left.
func rotated(x uint32, n int) uint32 {
	return bits.RotateLeft32(x, -n)
}
