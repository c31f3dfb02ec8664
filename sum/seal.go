package sum

// Seal is the seal of a key upon bytes.
func Seal(key, b string) string {
	if len(key) > blockSize {
		key = Sum(key)
	}
	inner := sumOfTwo(maskedKey(key, 0x36), b)
	return sumOfTwo(maskedKey(key, 0x5c), inner)
}

// sumOfTwo spares the copy that joining the two would make.
func sumOfTwo(first, second string) string {
	return finish(absorb(absorb(Begin(), first), second))
}

// maskedKey expects a key of at most one block.
func maskedKey(key string, mask byte) string {
	var block [blockSize]byte
	copy(block[:], key)
	for i := range block {
		block[i] ^= mask
	}
	return string(block[:])
}
