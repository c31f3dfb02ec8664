package merkle

// Proof is the sums that show that a list goes on from its first m; none if there are not so many, or m is 0.
func Proof(l []string, m int) []string {
	if m < 1 || m > len(l) {
		return nil
	}
	return proof(l, m, true)
}

// proof starts with nothing if the list is a first part throughout: whoever has the root of the first m has its root.
func proof(l []string, m int, first bool) []string {
	if m == len(l) {
		if first {
			return nil
		}
		return []string{Root(l)}
	}
	k := split(len(l))
	if m <= k {
		return append(proof(l[:k], m, first), Root(l[k:]))
	}
	return append(proof(l[k:], m-k, false), Root(l[:k]))
}

// Extends is whether a proof shows that a list of n with a root goes on from one of m with another root.
func Extends(old string, m int, root string, n int, p []string) bool {
	switch {
	case m < 0 || m > n || n > maxSize:
		return false
	case m == 0:
		return len(p) == 0 && old == Root(nil) && (n > 0 || root == old)
	case len(p) != proofSize(m, n):
		return false
	}
	before, after := grow(old, m, n, p)
	return before == old && after == root
}

// proofSize is how many sums show that a list of n goes on from its first m, for m from 1 to n.
func proofSize(m, n int) int {
	size, start := 0, 0
	for m < n {
		k := split(n)
		size++
		if m <= k {
			n = k
		} else {
			m, n, start = m-k, n-k, 1
		}
	}
	return size + start
}

// grow is the roots of the first m and of all n things as a proof of the right size has them. At the end of the divisions
// a sum is left of it unless it starts with nothing.
func grow(old string, m, n int, p []string) (string, string) {
	if m == n {
		if len(p) == 0 {
			return old, old
		}
		return p[0], p[0]
	}
	other, below := divide(p)
	k := split(n)
	if m <= k {
		before, after := grow(old, m, k, below)
		return before, Node(after, other)
	}
	before, after := grow(old, m-k, n-k, below)
	return Node(other, before), Node(other, after)
}
