package merkle

import (
	"crypto/sha256"
	"math/bits"
	"math/rand"
	"slices"
	"strconv"
	"testing"
)

func digest(s string) string {
	b := sha256.Sum256([]byte(s))
	return string(b[:])
}

func pair(a, b string) string { return digest("\x01" + a + b) }

// things is a list of so many, each unlike the others.
func things(many int) []string {
	var l []string
	for i := range many {
		l = append(l, "thing "+strconv.Itoa(i))
	}
	return l
}

// digests is a list of so many, made from a word.
func digests(word string, many int) []string {
	var l []string
	for i := range many {
		l = append(l, digest(word+strconv.Itoa(i)))
	}
	return l
}

// levels is another way to the tree: row by row, where the last one of an odd row goes up as it is.
func levels(l []string) [][]string {
	var row []string
	for _, s := range l {
		row = append(row, digest("\x00"+s))
	}
	rows := [][]string{row}
	for len(row) > 1 {
		var next []string
		for i := 0; i+1 < len(row); i += 2 {
			next = append(next, pair(row[i], row[i+1]))
		}
		if len(row)%2 == 1 {
			next = append(next, row[len(row)-1])
		}
		rows = append(rows, next)
		row = next
	}
	return rows
}

func slowRoot(l []string) string {
	if len(l) == 0 {
		return digest("")
	}
	rows := levels(l)
	return rows[len(rows)-1][0]
}

// beside is what stands beside the way upward from a place of a row.
func beside(rows [][]string, row, at int) []string {
	var l []string
	for _, sums := range rows[row:] {
		if at^1 < len(sums) {
			l = append(l, sums[at^1])
		}
		at /= 2
	}
	return l
}

func slowPath(l []string, i int) []string {
	if i < 0 || i >= len(l) {
		return nil
	}
	return beside(levels(l), 0, i)
}

func slowProof(l []string, m int) []string {
	if m < 1 || m >= len(l) {
		return nil
	}
	rows := levels(l)
	row := bits.TrailingZeros(uint(m))
	at := m>>row - 1
	p := beside(rows, row, at)
	if at == 0 {
		return p
	}
	return append([]string{rows[row][at]}, p...)
}

// slowCheck goes by the bits of the place, as RFC 9162 does in section 2.1.3.2.
func slowCheck(root string, n, i int, s string, path []string) bool {
	if n < 1 || n > 1<<40 || i < 0 || i >= n {
		return false
	}
	at, last, r := i, n-1, digest("\x00"+s)
	for _, p := range path {
		switch {
		case last == 0:
			return false
		case at%2 == 1 || at == last:
			r = pair(p, r)
			for at%2 == 0 && at > 0 {
				at, last = at/2, last/2
			}
		default:
			r = pair(r, p)
		}
		at, last = at/2, last/2
	}
	return last == 0 && r == root
}

// slowRoots is the roots that a proof leads to, and whether it has the right size, for m from 1 to n - 1: it goes by the
// bits, as RFC 9162 does in section 2.1.4.2.
func slowRoots(old string, m, n int, p []string) (string, string, bool) {
	if bits.OnesCount(uint(m)) == 1 {
		p = append([]string{old}, p...)
	}
	if len(p) == 0 {
		return "", "", false
	}
	at, last := m-1, n-1
	for at%2 == 1 {
		at, last = at/2, last/2
	}
	before, after := p[0], p[0]
	for _, c := range p[1:] {
		switch {
		case last == 0:
			return "", "", false
		case at%2 == 1 || at == last:
			before, after = pair(c, before), pair(c, after)
			for at%2 == 0 && at > 0 {
				at, last = at/2, last/2
			}
		default:
			after = pair(after, c)
		}
		at, last = at/2, last/2
	}
	return before, after, last == 0
}

func slowExtends(old string, m int, root string, n int, p []string) bool {
	switch {
	case m < 0 || m > n || n > 1<<40:
		return false
	case m == 0 && n == 0:
		return len(p) == 0 && old == digest("") && root == old
	case m == 0:
		return len(p) == 0 && old == digest("")
	case m == n:
		return len(p) == 0 && old == root
	}
	before, after, fits := slowRoots(old, m, n, p)
	return fits && before == old && after == root
}

// wrongs is what comes of a list of sums by changes, each at each place.
func wrongs(l []string) [][]string {
	changed := [][]string{append(slices.Clone(l), digest("more")), append([]string{digest("more")}, l...), append(slices.Clone(l), "")}
	for i, s := range l {
		changed = append(changed, slices.Delete(slices.Clone(l), i, i+1))
		for _, other := range []string{"", s[1:], s[:31], s + "\x00", s + s, flipped(s), digest("other")} {
			wrong := slices.Clone(l)
			wrong[i] = other
			changed = append(changed, wrong)
		}
		changed = append(changed, slices.Insert(slices.Clone(l), i, s))
		if i > 0 {
			swapped, moved := slices.Clone(l), slices.Clone(l)
			swapped[i-1], swapped[i] = l[i], l[i-1]
			moved[i-1], moved[i] = l[i-1]+l[i][:1], l[i][1:]
			changed = append(changed, swapped, moved)
		}
	}
	return changed
}

// flipped has one other bit.
func flipped(s string) string {
	b := []byte(s)
	b[len(b)/2] ^= 1
	return string(b)
}

// bigSizes are near powers of two, up to the most that may be, and some between.
func bigSizes(random *rand.Rand) []int {
	l := []int{1<<40 - 3, 1<<40 - 2, 1<<40 - 1, 1 << 40}
	for shift := 5; shift < 40; shift++ {
		l = append(l, 1<<shift-1, 1<<shift, 1<<shift+1, 1<<shift+random.Intn(1<<shift))
	}
	return l
}

// wantUntouched asks that a call changes neither the list that it is given nor the room behind it.
func wantUntouched(t *testing.T, l []string, call func(l []string)) {
	t.Helper()
	roomy := append(slices.Clone(l), "spare", "spare")
	call(roomy[:len(l)])
	if !slices.Equal(roomy[:len(l)], l) || roomy[len(l)] != "spare" || roomy[len(l)+1] != "spare" {
		t.Errorf("a list of %d is touched", len(l))
	}
}
