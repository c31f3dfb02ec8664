package merkle

import (
	"math"
	"math/rand"
	"slices"
	"testing"
)

func TestP9_3Path(t *testing.T) {
	l := []string{"a", "b", "c", "d", "e", "f", "g"}
	a, b, c, d, e, f, g := Leaf("a"), Leaf("b"), Leaf("c"), Leaf("d"), Leaf("e"), Leaf("f"), Leaf("g")
	ab, cd, ef := pair(a, b), pair(c, d), pair(e, f)
	abcd, efg := pair(ab, cd), pair(ef, g)
	for _, test := range []struct {
		many, i int
		want    []string
	}{
		{1, 0, nil}, {2, 0, []string{b}}, {2, 1, []string{a}},
		{3, 0, []string{b, c}}, {3, 1, []string{a, c}}, {3, 2, []string{ab}},
		{5, 0, []string{b, cd, e}}, {5, 2, []string{d, ab, e}}, {5, 4, []string{abcd}},
		{7, 3, []string{c, ab, efg}}, {7, 4, []string{f, g, abcd}}, {7, 5, []string{e, g, abcd}}, {7, 6, []string{ef, abcd}},
	} {
		if got := Path(l[:test.many], test.i); !slices.Equal(got, test.want) {
			t.Errorf("Path of %d among %d = %x, want %x", test.i, test.many, got, test.want)
		}
	}
}

func TestP9_3PathBySize(t *testing.T) {
	l := things(90)
	for many := range len(l) {
		for i := -2; i < many+3; i++ {
			if got, want := Path(l[:many], i), slowPath(l[:many], i); !slices.Equal(got, want) {
				t.Errorf("Path of %d among %d = %x, want %x", i, many, got, want)
			}
		}
	}
	wantUntouched(t, l[:13], func(l []string) { Path(l, 6) })
}

func TestP9_3PathOfNoPlace(t *testing.T) {
	for _, many := range []int{0, 1, 2, 7, 8} {
		for _, i := range []int{math.MinInt, -1 << 40, -many - 1, -many, -1, many, many + 1, 2 * many, 1 << 40, math.MaxInt} {
			if i < 0 || i >= many {
				if got := Path(things(many), i); len(got) != 0 {
					t.Errorf("Path of %d among %d = %x", i, many, got)
				}
			}
		}
	}
}

// Each path shows its thing at its place, and nothing else there or elsewhere.
func TestP9_4Check(t *testing.T) {
	for many := 1; many < 36; many++ {
		l := things(many)
		root := slowRoot(l)
		for i, s := range l {
			path := slowPath(l, i)
			wantUntouched(t, path, func(path []string) {
				if !Check(root, many, i, s, path) {
					t.Errorf("not Check of %d among %d", i, many)
				}
			})
			for _, wrong := range []string{"", s + "\x00", s[1:], "other", "\x00" + s, Leaf(s)} {
				if Check(root, many, i, wrong, path) {
					t.Errorf("Check of %q at %d among %d", wrong, i, many)
				}
			}
			for _, wrong := range []string{"", root[1:], root + "\x00", flipped(root), Leaf(s), digest("")} {
				if wrong != root && Check(wrong, many, i, s, path) {
					t.Errorf("Check of %d among %d with the root %x", i, many, wrong)
				}
			}
			for _, wrong := range wrongs(path) {
				if Check(root, many, i, s, wrong) {
					t.Errorf("Check of %d among %d with %x, not %x", i, many, wrong, path)
				}
			}
		}
	}
}

// A path shows its thing at other places and in other sizes just where it goes up in the same way there.
func TestP9_4CheckElsewhere(t *testing.T) {
	yes := 0
	for many := 1; many < 20; many++ {
		l := things(many)
		root := slowRoot(l)
		for i, s := range l {
			path := slowPath(l, i)
			for n := -1; n < 36; n++ {
				for at := -1; at < n+2; at++ {
					got, want := Check(root, n, at, s, path), slowCheck(root, n, at, s, path)
					if got != want {
						t.Errorf("Check of the path of %d among %d at %d among %d = %t", i, many, at, n, got)
					}
					if want {
						yes++
					}
				}
			}
		}
	}
	if yes < 250 {
		t.Errorf("only %d are right", yes)
	}
}

func TestP9_4CheckOutside(t *testing.T) {
	l := things(6)
	for i, s := range l {
		for _, n := range []int{math.MinInt, -1 << 40, -6, -1, 0, 1<<40 + 1, 1<<40 + 6, 1 << 41, 1 << 62, math.MaxInt} {
			for _, at := range []int{math.MinInt, -1, 0, i, n - 1, n, math.MaxInt} {
				for _, path := range [][]string{nil, Path(l, i), digests("x", 40), digests("x", 41), digests("x", 63)} {
					if Check(Root(l), n, at, s, path) {
						t.Errorf("Check at %d among %d", at, n)
					}
				}
			}
		}
		for _, at := range []int{math.MinInt, -6, i - 6, -1, 6, i + 6, 1 << 40, math.MaxInt} {
			if Check(Root(l), 6, at, s, Path(l, i)) {
				t.Errorf("Check at %d among 6", at)
			}
		}
	}
	// Just the size is wrong.
	for _, n := range []int{1<<40 + 1, 1<<40 + 2, 1 << 41, 1<<50 + 7, 1 << 62} {
		for _, i := range []int{0, 1, 1<<40 - 1, 1 << 40, n - 1} {
			if path, root := madePath(n, i); Check(root, n, i, "thing", path) {
				t.Errorf("Check at %d among %d", i, n)
			}
		}
	}
	// Wherever there is but one thing, its leaf is the root.
	for _, n := range []int{math.MinInt, -1, 0, 2, 1 << 40, 1<<40 + 1, math.MaxInt} {
		if Check(Leaf("a"), n, 0, "a", nil) {
			t.Errorf("Check of one among %d", n)
		}
	}
	if !Check(Leaf("a"), 1, 0, "a", nil) || !Check(Leaf("a"), 1, 0, "a", []string{}) || Check(Leaf("a"), 1, 0, "a", []string{""}) {
		t.Error("Check of one among one")
	}
}

// Lists of these sizes are shown by made-up sums alone.
func TestP9_4CheckInBigLists(t *testing.T) {
	random := rand.New(rand.NewSource(94))
	for _, n := range bigSizes(random) {
		for _, i := range []int{0, 1, n / 2, n/2 + 1, n - 2, n - 1, random.Intn(n), random.Intn(n), random.Intn(n)} {
			path, root := madePath(n, i)
			if !slowCheck(root, n, i, "thing", path) || !Check(root, n, i, "thing", path) {
				t.Errorf("not Check of %d among %d", i, n)
			}
			longer := append(slices.Clone(path), digest("more"))
			for _, wrong := range [][]string{path[1:], path[:len(path)-1], longer, nil} {
				if Check(root, n, i, "thing", wrong) {
					t.Errorf("Check of %d among %d with %d sums, not %d", i, n, len(wrong), len(path))
				}
			}
			for _, wrong := range []string{pair(root, longer[len(path)]), pair(longer[len(path)], root)} {
				if Check(wrong, n, i, "thing", longer) {
					t.Errorf("Check of %d among %d with a sum too many", i, n)
				}
			}
			if Check(root, n, i, "other", path) || Check(flipped(root), n, i, "thing", path) || Check(root, n, i^1, "thing", path) {
				t.Errorf("Check of another thing than %d among %d", i, n)
			}
		}
	}
}

// madePath is a path for a place, and the root that it leads to; the divisions are told from above by halving intervals.
func madePath(n, i int) ([]string, string) {
	var inFirst []bool
	from, to := 0, n
	for to-from > 1 {
		k := 1
		for 2*k < to-from {
			k *= 2
		}
		inFirst = append(inFirst, i < from+k)
		if i < from+k {
			to = from + k
		} else {
			from += k
		}
	}
	slices.Reverse(inFirst)
	path, root := digests("beside", len(inFirst)), digest("\x00thing")
	for row, first := range inFirst {
		if first {
			root = pair(root, path[row])
		} else {
			root = pair(path[row], root)
		}
	}
	return path, root
}

// The number of the sums is asked, whatever each of them is.
func TestP9_4CheckOfShortTexts(t *testing.T) {
	if !Check(Node(Leaf("a"), "x"), 2, 0, "a", []string{"x"}) || !Check(Node("", Leaf("a")), 2, 1, "a", []string{""}) {
		t.Error("not Check")
	}
	if Check(Node(Leaf("a"), "x"), 2, 1, "a", []string{"x"}) || Check(Node(Leaf("a"), ""), 2, 0, "a", nil) {
		t.Error("Check")
	}
	if Check("", 2, 0, "a", nil) || Check(Node("", "x"), 3, 0, "a", []string{"x"}) || Check(Node(Leaf("a"), "x"), 3, 0, "a", []string{"x"}) {
		t.Error("Check with too few")
	}
}
