package merkle

import (
	"math"
	"math/bits"
	"math/rand"
	"slices"
	"testing"
)

func TestP9_5Proof(t *testing.T) {
	l := []string{"a", "b", "c", "d", "e", "f", "g"}
	a, b, c, d, e, f, g := Leaf("a"), Leaf("b"), Leaf("c"), Leaf("d"), Leaf("e"), Leaf("f"), Leaf("g")
	ab, cd, ef := pair(a, b), pair(c, d), pair(e, f)
	abcd, efg := pair(ab, cd), pair(ef, g)
	for _, test := range []struct {
		many, m int
		want    []string
	}{
		{1, 1, nil}, {2, 1, []string{b}}, {2, 2, nil}, {3, 1, []string{b, c}}, {3, 2, []string{c}}, {3, 3, nil},
		{4, 3, []string{c, d, ab}}, {5, 3, []string{c, d, ab, e}}, {5, 4, []string{e}}, {5, 5, nil},
		{7, 1, []string{b, cd, efg}}, {7, 2, []string{cd, efg}}, {7, 3, []string{c, d, ab, efg}}, {7, 4, []string{efg}},
		{7, 5, []string{e, f, g, abcd}}, {7, 6, []string{ef, g, abcd}}, {7, 7, nil},
	} {
		if got := Proof(l[:test.many], test.m); !slices.Equal(got, test.want) {
			t.Errorf("Proof from %d to %d = %x, want %x", test.m, test.many, got, test.want)
		}
	}
}

func TestP9_5ProofBySize(t *testing.T) {
	l := things(90)
	for many := range len(l) {
		for m := -2; m < many+3; m++ {
			if got, want := Proof(l[:many], m), slowProof(l[:many], m); !slices.Equal(got, want) {
				t.Errorf("Proof from %d to %d = %x, want %x", m, many, got, want)
			}
		}
	}
	wantUntouched(t, l[:13], func(l []string) { Proof(l, 6) })
}

func TestP9_5ProofFromNoPart(t *testing.T) {
	for _, many := range []int{0, 1, 2, 7, 8} {
		for _, m := range []int{math.MinInt, -1 << 40, -many, -1, 0, many + 1, 2*many + 1, 1 << 40, math.MaxInt} {
			if got := Proof(things(many), m); len(got) != 0 {
				t.Errorf("Proof from %d to %d = %x", m, many, got)
			}
		}
	}
}

// Each proof shows that its list goes on from its first things, and nothing else.
func TestP9_6Extends(t *testing.T) {
	for many := 1; many < 36; many++ {
		l := things(many)
		root := slowRoot(l)
		for m := 1; m <= many; m++ {
			old, p := slowRoot(l[:m]), slowProof(l, m)
			wantUntouched(t, p, func(p []string) {
				if !Extends(old, m, root, many, p) {
					t.Errorf("not Extends from %d to %d", m, many)
				}
			})
			for _, wrong := range []string{"", old[1:], old + "\x00", flipped(old), digest(""), slowRoot(l[:m-1]), root} {
				if wrong != old && Extends(wrong, m, root, many, p) {
					t.Errorf("Extends from %d with the root %x to %d", m, wrong, many)
				}
			}
			for _, wrong := range []string{"", root[1:], root + "\x00", flipped(root), digest(""), slowRoot(l[:many-1]), old} {
				if wrong != root && Extends(old, m, wrong, many, p) {
					t.Errorf("Extends from %d to %d with the root %x", m, many, wrong)
				}
			}
			for _, wrong := range wrongs(p) {
				if Extends(old, m, root, many, wrong) {
					t.Errorf("Extends from %d to %d with %x, not %x", m, many, wrong, p)
				}
			}
		}
	}
}

// A proof shows other sizes just where they are divided in the same way.
func TestP9_6ExtendsElsewhere(t *testing.T) {
	yes := 0
	for many := 1; many < 20; many++ {
		l := things(many)
		root := slowRoot(l)
		for m := 0; m <= many; m++ {
			old, p := slowRoot(l[:m]), slowProof(l, m)
			for n := -1; n < 36; n++ {
				for part := -1; part < n+2; part++ {
					got, want := Extends(old, part, root, n, p), slowExtends(old, part, root, n, p)
					if got != want {
						t.Errorf("Extends with the proof from %d to %d from %d to %d = %t", m, many, part, n, got)
					}
					if want {
						yes++
					}
				}
			}
		}
	}
	if yes < 400 {
		t.Errorf("only %d are right", yes)
	}
}

// The list that another branch has does not go on from this one.
func TestP9_6ExtendsOnBranches(t *testing.T) {
	for many := 2; many < 20; many++ {
		for fork := range many {
			one, other := things(many), things(many)
			other[fork] = "another thing"
			for m := 1; m <= many; m++ {
				got := Extends(Root(one[:m]), m, Root(other), many, Proof(other, m))
				if got != (m <= fork) {
					t.Errorf("Extends from %d to %d on a branch from %d = %t", m, many, fork, got)
				}
				if Extends(Root(one[:m]), m, Root(other), many, Proof(one, m)) {
					t.Errorf("Extends from %d to %d with the proof of another branch", m, many)
				}
			}
		}
	}
}

func TestP9_6ExtendsFromNothing(t *testing.T) {
	nothing, some := digest(""), digest("some")
	for _, n := range []int{1, 2, 3, 8, 1<<40 - 1, 1 << 40} {
		for _, root := range []string{some, nothing, "", "root"} {
			if !Extends(nothing, 0, root, n, nil) || !Extends(nothing, 0, root, n, []string{}) {
				t.Errorf("not Extends from nothing to %d", n)
			}
			for _, old := range []string{"", "x", some, nothing[1:], flipped(nothing), Leaf("")} {
				if Extends(old, 0, root, n, nil) {
					t.Errorf("Extends from nothing with the root %x to %d", old, n)
				}
			}
			for _, p := range [][]string{{""}, {root}, {nothing}, {some, some}} {
				if Extends(nothing, 0, root, n, p) {
					t.Errorf("Extends from nothing to %d with %x", n, p)
				}
			}
		}
	}
	if !Extends(nothing, 0, nothing, 0, nil) {
		t.Error("not Extends from nothing to nothing")
	}
	for _, other := range []string{"", "x", some, nothing + nothing} {
		if Extends(nothing, 0, other, 0, nil) || Extends(other, 0, nothing, 0, nil) || Extends(other, 0, other, 0, nil) || Extends(nothing, 0, nothing, 0, []string{other}) {
			t.Errorf("Extends from nothing to nothing with %x", other)
		}
	}
}

func TestP9_6ExtendsToItself(t *testing.T) {
	for _, n := range []int{1, 2, 3, 4, 5, 8, 1000, 1 << 20, 1<<40 - 1, 1 << 40} {
		for _, root := range []string{digest("x"), digest(""), "", "x"} {
			if !Extends(root, n, root, n, nil) || !Extends(root, n, root, n, []string{}) {
				t.Errorf("not Extends from %d to itself", n)
			}
			if Extends(root, n, root+"x", n, nil) || Extends(root+"x", n, root, n, nil) || Extends(root, n, root, n, []string{root}) || Extends(root, n, root, n, []string{""}) {
				t.Errorf("Extends from %d to itself", n)
			}
		}
	}
}

func TestP9_6ExtendsOutside(t *testing.T) {
	root := digest("root")
	for _, n := range []int{math.MinInt, -1 << 40, -1, 0, 1, 2, 7, 1 << 40, 1<<40 + 1, 1 << 41, 1 << 62, math.MaxInt} {
		for _, m := range []int{math.MinInt, -1 << 40, -7, -1, 0, 1, 2, 7, n - 1, n, n + 1, 1 << 40, 1<<40 + 1, math.MaxInt} {
			if m >= 0 && m <= n && n <= 1<<40 {
				continue
			}
			for _, old := range []string{root, digest(""), ""} {
				for _, p := range [][]string{nil, {root}, digests("x", 2), digests("x", 40), digests("x", 41), digests("x", 64)} {
					if Extends(old, m, root, n, p) || Extends(old, m, old, n, p) {
						t.Errorf("Extends from %d to %d with %d sums", m, n, len(p))
					}
				}
			}
		}
	}
}

// Just the size is wrong.
func TestP9_6ExtendsOfTooMany(t *testing.T) {
	for _, n := range []int{1<<40 + 1, 1<<40 + 2, 1 << 41, 1<<50 + 7, 1 << 62} {
		for _, m := range []int{1, 2, 3, 1<<40 - 1, 1 << 40, n - 1} {
			right := 0
			for size := range 70 {
				p := digests("sum", size)
				before, after, fits := slowRoots(digest("old"), m, n, p)
				if fits {
					right++
				}
				if Extends(before, m, after, n, p) {
					t.Errorf("Extends from %d to %d with %d sums", m, n, size)
				}
			}
			if right != 1 {
				t.Errorf("from %d to %d there are %d right sizes", m, n, right)
			}
		}
	}
}

// Lists of these sizes are shown by made-up sums alone.
func TestP9_6ExtendsInBigLists(t *testing.T) {
	random := rand.New(rand.NewSource(96))
	for _, n := range bigSizes(random) {
		half := 1 << (bits.Len(uint(n-1)) - 1)
		for _, m := range []int{1, 2, 3, half - 1, half, n - 2, n - 1, random.Intn(n-1) + 1, random.Intn(n-1) + 1} {
			wantMadeProof(t, m, n)
		}
	}
	for n := 2; n < 40; n++ {
		for m := 1; m < n; m++ {
			wantMadeProof(t, m, n)
		}
	}
}

// wantMadeProof asks that made-up sums show this just where there are as many of them as must be.
func wantMadeProof(t *testing.T, m, n int) {
	t.Helper()
	many, sums := 0, digests("sum", 45)
	for size := range len(sums) {
		p := sums[:size]
		before, after, fits := slowRoots(digest("old"), m, n, p)
		got := Extends(before, m, after, n, p)
		if got != fits {
			t.Errorf("Extends from %d to %d with %d sums = %t", m, n, size, got)
		}
		if !fits {
			continue
		}
		many++
		if Extends(flipped(before), m, after, n, p) || Extends(before, m, flipped(after), n, p) || Extends(after, m, before, n, p) {
			t.Errorf("Extends from %d to %d with a wrong root", m, n)
		}
	}
	if many != 1 {
		t.Errorf("from %d to %d there are %d right sizes", m, n, many)
	}
}

// The number of the sums is asked, whatever each of them is.
func TestP9_6ExtendsOfShortTexts(t *testing.T) {
	if !Extends("old", 1, Node("old", "x"), 2, []string{"x"}) || !Extends(Node("y", "x"), 3, Node("y", Node("x", "")), 4, []string{"x", "", "y"}) {
		t.Error("not Extends")
	}
	if Extends("old", 1, Node("x", "old"), 2, []string{"x"}) || Extends("old", 1, Node("old", ""), 2, nil) {
		t.Error("Extends")
	}
}
