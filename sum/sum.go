// Package sum computes SHA-256 and HMAC-SHA-256, and writes and reads hexadecimal digits: see ../../shared/doc/01-sum.md.
package sum

import "cartulary/api"

// manyLimit keeps the number of bits below 2^63, so that it fits the eight bytes at the end.
const manyLimit = 1 << 60

// Begin is the state of nothing.
func Begin() api.State {
	return api.State{Heads: [8]uint32{
		0x6a09e667, 0xbb67ae85, 0x3c6ef372, 0xa54ff53a,
		0x510e527f, 0x9b05688c, 0x1f83d9ab, 0x5be0cd19,
	}}
}

// Good is whether a state is one that something may have led to.
func Good(s api.State) bool {
	return s.Many >= 0 && s.Many < manyLimit && len(s.Rest) == s.Many%blockSize
}

// Add is the state behind bytes more.
func Add(s api.State, b string) (api.State, api.Errno) {
	// The subtraction cannot overflow, as a sum of the two counts could.
	if !Good(s) || len(b) >= manyLimit-s.Many {
		return api.State{}, api.ErrRange
	}
	return absorb(s, b), api.OK
}

// End is the sum of all bytes that led to a state.
func End(s api.State) (string, api.Errno) {
	if !Good(s) {
		return "", api.ErrRange
	}
	return finish(s), api.OK
}

// Sum is the sum of bytes: 32 of them.
func Sum(b string) string {
	return finish(absorb(Begin(), b))
}

// absorb expects a valid state.
func absorb(s api.State, b string) api.State {
	s.Many += len(b)
	// Only the first block is joined: joining all of b would copy it.
	missing := min(blockSize-len(s.Rest), len(b))
	first := s.Rest + b[:missing]
	if len(first) < blockSize {
		s.Rest = first
		return s
	}
	b = b[missing:]
	whole := len(b) - len(b)%blockSize
	s.Heads = processBlocks(processBlocks(s.Heads, first), b[:whole])
	s.Rest = b[whole:]
	return s
}

// finish expects a valid state.
func finish(s api.State) string {
	return headBytes(processBlocks(s.Heads, s.Rest+padding(s.Many)))
}

// padding is what follows many bytes, such that whole blocks result.
func padding(many int) string {
	const lengthSize = 8
	// many + 1 + zeros + lengthSize is then a multiple of blockSize, with the fewest zeros.
	zeros := blockSize - 1 - (many+lengthSize)%blockSize
	tail := make([]byte, 1+zeros, 1+zeros+lengthSize)
	tail[0] = 0x80
	bits := uint64(many) * 8
	for shift := 56; shift >= 0; shift -= 8 {
		tail = append(tail, byte(bits>>shift))
	}
	return string(tail)
}

func headBytes(heads [8]uint32) string {
	var out [32]byte
	for i, h := range heads {
		out[4*i] = byte(h >> 24)
		out[4*i+1] = byte(h >> 16)
		out[4*i+2] = byte(h >> 8)
		out[4*i+3] = byte(h)
	}
	return string(out[:])
}
