package merkle

// Path is the sums beside the way from a thing to the root, from below; none of a place that there is not.
func Path(l []string, i int) []string {
	if i < 0 || i >= len(l) || len(l) == 1 {
		return nil
	}
	k := split(len(l))
	if i < k {
		return append(Path(l[:k], i), Root(l[k:]))
	}
	return append(Path(l[k:], i-k), Root(l[:k]))
}

// Check is whether a path shows a thing at a place of a list of n with a root.
func Check(root string, n, i int, s string, path []string) bool {
	if n < 1 || n > maxSize || i < 0 || i >= n {
		return false
	}
	reached, fits := climb(n, i, Leaf(s), path)
	return fits && reached == root
}

// climb is the root that a path leads to from the leaf at a place of a list of n, and whether the path has just as many
// sums as there are divisions.
func climb(n, i int, leaf string, path []string) (string, bool) {
	if n == 1 {
		return leaf, len(path) == 0
	}
	if len(path) == 0 {
		return "", false
	}
	other, below := divide(path)
	k := split(n)
	if i < k {
		part, fits := climb(k, i, leaf, below)
		return Node(part, other), fits
	}
	part, fits := climb(n-k, i-k, leaf, below)
	return Node(other, part), fits
}
