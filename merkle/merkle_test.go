package merkle

import (
	"slices"
	"strings"
	"testing"
)

// texts are of sizes around those of blocks of the sum, and unlike in their first and last bytes.
func texts() []string {
	l := []string{"", "\x00", "\x01", "\x00\x00", "\x01\x00", "a", "ab", "\xff", "\u00e4", strings.Repeat("x", 1<<20)}
	for _, size := range []int{31, 32, 33, 54, 55, 56, 62, 63, 64, 65, 127, 128} {
		l = append(l, strings.Repeat("b", size), strings.Repeat("\x00", size))
	}
	return l
}

func TestP9_1Leaf(t *testing.T) {
	for _, s := range texts() {
		if Leaf(s) != digest("\x00"+s) {
			t.Errorf("Leaf(%.80q) = %x", s, Leaf(s))
		}
	}
}

func TestP9_1Node(t *testing.T) {
	for _, a := range texts() {
		for _, b := range []string{"", "\x00", "b", Leaf("a"), Leaf("a") + "b"} {
			if Node(a, b) != digest("\x01"+a+b) || Node(b, a) != digest("\x01"+b+a) {
				t.Errorf("Node(%.80q, %q) = %x, the other way %x", a, b, Node(a, b), Node(b, a))
			}
		}
	}
}

func TestP9_2Root(t *testing.T) {
	a, b, c, d, e, f, g := Leaf("a"), Leaf("b"), Leaf("c"), Leaf("d"), Leaf("e"), Leaf("f"), Leaf("g")
	ab, cd, ef := pair(a, b), pair(c, d), pair(e, f)
	for many, want := range []string{
		digest(""), a, ab, pair(ab, c), pair(ab, cd), pair(pair(ab, cd), e), pair(pair(ab, cd), ef), pair(pair(ab, cd), pair(ef, g)),
	} {
		if got := Root([]string{"a", "b", "c", "d", "e", "f", "g"}[:many]); got != want {
			t.Errorf("Root of %d = %x, want %x", many, got, want)
		}
	}
	if Root(nil) != digest("") {
		t.Errorf("Root of none = %x", Root(nil))
	}
}

func TestP9_2RootBySize(t *testing.T) {
	l := things(600)
	for many := range len(l) {
		if Root(l[:many]) != slowRoot(l[:many]) {
			t.Errorf("Root of %d = %x", many, Root(l[:many]))
		}
	}
	wantUntouched(t, l[:13], func(l []string) { Root(l) })
	for _, many := range []int{1 << 14, 1<<14 + 1, 1<<15 - 1} {
		if l := things(many); Root(l) != slowRoot(l) {
			t.Errorf("Root of %d = %x", many, Root(l))
		}
	}
}

// Things that are empty, alike, or look like sums.
func TestP9_2RootOfOddThings(t *testing.T) {
	for _, s := range texts() {
		for many := range 10 {
			l := slices.Repeat([]string{s}, many)
			if Root(l) != slowRoot(l) {
				t.Errorf("Root of %d times %.80q = %x", many, s, Root(l))
			}
		}
	}
	a, b := Leaf("a"), Leaf("b")
	for _, l := range [][]string{{a + b}, {"\x01" + a + b}, {a, b}, {Node(a, b)}, {"b", "a"}} {
		if Root(l) != slowRoot(l) || Root(l) == Root([]string{"a", "b"}) {
			t.Errorf("Root of %q = %x", l, Root(l))
		}
	}
}
