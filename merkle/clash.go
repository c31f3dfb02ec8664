package merkle

import "slices"

// Clash is two unlike texts with one sum, told by two unlike lists of one length with one root; empty ones, if they are not such.
func Clash(a, b []string) (string, string) {
	if len(a) != len(b) || slices.Equal(a, b) || Root(a) != Root(b) {
		return "", ""
	}
	return clash(a, b)
}

// clash expects unlike lists of one length with one root.
func clash(a, b []string) (string, string) {
	if len(a) == 1 {
		return leafText(a[0]), leafText(b[0])
	}
	k := split(len(a))
	ofA, ofB := nodeText(Root(a[:k]), Root(a[k:])), nodeText(Root(b[:k]), Root(b[k:]))
	if ofA != ofB {
		return ofA, ofB
	}
	// All sums have one length, so that both parts have the same roots here as there, and one of them is unlike.
	if !slices.Equal(a[:k], b[:k]) {
		return clash(a[:k], b[:k])
	}
	return clash(a[k:], b[k:])
}
