package store

import (
	"math/rand"
	"slices"
	"strconv"
	"testing"

	"cartulary/api"
	"cartulary/object"
)

func wantDescends(t *testing.T, get func(id string) (string, api.Errno), id, from string, want bool) {
	t.Helper()
	if got := Descends(get, id, from); got != want {
		t.Errorf("Descends(%q, %q) = %t", id, from, got)
	}
}

func TestP7_5Descends(t *testing.T) {
	g := family()
	names := []string{"x", "y", "none", "t", "top", "z", "one", "two", "side", "three", "v1", "v2", "self", "round", "about", "circle", "lacks", "junk", "empty", "lacking"}
	descends := map[string][]string{
		"two": {"one"}, "three": {"one", "two", "side"}, "round": {"about", "circle"}, "about": {"round", "circle"}, "circle": {"round", "about"},
	}
	for _, id := range names {
		for _, from := range names {
			wantDescends(t, g.get, made(id), made(from), id == from || slices.Contains(descends[id], from))
		}
	}
}

// A parent counts whether it is there or not, and whatever it is.
func TestP7_5DescendsFromWhatIsNoCommit(t *testing.T) {
	g := family()
	g[made("strange")] = commit(made("t"), a("x lacking junk v1")...)
	for _, from := range a("x lacking junk v1") {
		wantDescends(t, g.get, made("strange"), from, true)
	}
	// These have no parents: neither what a tag or a tree leads to, nor what one of the bytes might be.
	for _, from := range a("one t y z two") {
		wantDescends(t, g.get, made("strange"), from, false)
	}
	for s := range noObjects() {
		g[made("wrong")] = s
		wantDescends(t, g.get, made("wrong"), made("p"), false)
		wantDescends(t, g.get, made("wrong"), made("wrong"), true)
	}
	for _, s := range []string{tag(made("p")), tree(made("p")), commit(made("p"))} {
		wantDescends(t, graph{made("other"): s}.get, made("other"), made("p"), false)
	}
}

func TestP7_5DescendsWithoutAnything(t *testing.T) {
	for _, get := range []func(id string) (string, api.Errno){nil, graph{}.get, endless(2), func(string) (string, api.Errno) { return "", api.OK }} {
		for _, id := range []string{"", "x", made("x"), idFor("x")} {
			wantDescends(t, get, id, id, true)
			wantDescends(t, get, id, made("other"), false)
			wantDescends(t, get, id, "", id == "")
		}
	}
}

// What comes with an error is not there.
func TestP7_5DescendsByErrorsWithContent(t *testing.T) {
	get := func(id string) (string, api.Errno) { return commit(made("t"), made("p")), api.ErrSum }
	wantDescends(t, get, made("x"), made("p"), false)
	get = func(id string) (string, api.Errno) { return commit(made("t"), made("p")), api.OK }
	wantDescends(t, get, made("x"), made("p"), true)
}

func TestP7_5DescendsOnDisk(t *testing.T) {
	one := commit(made("t"))
	two := commit(made("t"), idFor(one))
	three := commit(made("u"), idFor(two))
	get := func(id string) (string, api.Errno) { return Get(holding(one, two, three), id) }
	wantDescends(t, get, idFor(three), idFor(one), true)
	wantDescends(t, get, idFor(two), idFor(one), true)
	wantDescends(t, get, idFor(one), idFor(three), false)
	without := func(id string) (string, api.Errno) { return Get(holding(one, three), id) }
	wantDescends(t, without, idFor(three), idFor(two), true)
	wantDescends(t, without, idFor(three), idFor(one), false)
}

// Of a long row of commits the first MaxClosure are examined.
func TestP7_5DescendsAfar(t *testing.T) {
	g := crowd(2 * api.MaxClosure)
	name := func(i int) string { return made("c" + strconv.Itoa(1000+i)) }
	for _, start := range []int{0, 1, 77} {
		for _, far := range []int{0, 1, 2, 100, api.MaxClosure - 2, api.MaxClosure - 1} {
			wantDescends(t, g.get, name(start), name(start+far), true)
			if far > 0 {
				wantDescends(t, g.get, name(start+far), name(start), false)
			}
		}
		for _, far := range []int{api.MaxClosure, api.MaxClosure + 1, api.MaxClosure + 100} {
			wantDescends(t, g.get, name(start), name(start+far), false)
		}
	}
}

// breadthFirst is the ids in the order in which the ancestors of one are met, generation by generation.
func breadthFirst(get func(id string) (string, api.Errno), id string, most int) []string {
	order, generation := []string{id}, []string{id}
	for len(generation) > 0 && len(order) < most {
		var next []string
		for _, child := range generation {
			s, bad := get(child)
			o, noObject := object.Decode(s)
			if bad != api.OK || noObject != api.OK {
				continue
			}
			for _, p := range o.Parents {
				if !slices.Contains(order, p) {
					order, next = append(order, p), append(next, p)
				}
			}
		}
		generation = next
	}
	return order
}

// Of commits that branch without end the nearest generations are examined, and of these the earlier parents first.
func TestP7_5DescendsInBreadth(t *testing.T) {
	for width := 1; width <= api.MaxParents; width++ {
		order := breadthFirst(endless(width), made("start"), api.MaxClosure+50)
		for i, from := range order {
			wantDescends(t, endless(width), made("start"), from, i < api.MaxClosure)
		}
	}
	// A branch without end does not hide another one.
	for _, parents := range [][]string{a("endless p0"), a("p0 endless")} {
		get := func(id string) (string, api.Errno) {
			switch {
			case id == made("start"):
				return commit(made("t"), parents...), api.OK
			case id[0] == 'p':
				n, _ := strconv.Atoi(id[1:slices.Index([]byte(id), '=')])
				return commit(made("t"), made("p"+strconv.Itoa(n+1))), api.OK
			}
			return commit(made("t"), "e"+idFor(id)[1:]), api.OK
		}
		for _, far := range []int{0, 1, 10, 150, 198} {
			wantDescends(t, get, made("start"), made("p"+strconv.Itoa(far)), true)
		}
		wantDescends(t, get, made("start"), made("p199"), slices.Equal(parents, a("p0 endless")))
		wantDescends(t, get, made("start"), made("p200"), false)
	}
}

// lattice has four commits in each generation, all of which have all four of the next one as their parents, so that there
// are far too many ways to take each.
func lattice(id string) (string, api.Errno) {
	generation := int(id[0])
	if generation == 200 {
		return commit(made("t")), api.OK
	}
	var parents []string
	for i := range 4 {
		parents = append(parents, latticeId(generation+1, i))
	}
	return commit(made("t"), parents...), api.OK
}

func latticeId(generation, i int) string {
	return made(string([]byte{byte(generation), byte(i)}))
}

func TestP7_5DescendsEachOnce(t *testing.T) {
	start := latticeId(0, 0)
	for _, generation := range []int{1, 2, 50, 99} {
		for i := range 4 {
			wantDescends(t, lattice, start, latticeId(generation, i), true)
		}
	}
	// One in the generation 0, and 99 times 4, which leaves 3 of the generation 100.
	for i, want := range []bool{true, true, true, false} {
		wantDescends(t, lattice, start, latticeId(100, i), want)
	}
	wantDescends(t, lattice, start, latticeId(101, 0), false)
	wantDescends(t, lattice, start, made("none"), false)
	// A commit that is its own ancestor is not examined again.
	g := crowd(api.MaxClosure)
	for i := range api.MaxClosure - 1 {
		at := 1000 + i
		g[made("c"+strconv.Itoa(at))] = commit(made("root"), made("c"+strconv.Itoa(at)), made("c"+strconv.Itoa(at+1)), made("c1000"))
		if i == 0 {
			g[made("c1000")] = commit(made("root"), made("c1001"), made("c1000"))
		}
	}
	wantDescends(t, g.get, made("c1000"), made("c1399"), true)
	wantDescends(t, g.get, made("c1000"), made("c1400"), false)
}

func TestP7_5DescendsByChance(t *testing.T) {
	source := rand.New(rand.NewSource(73))
	seen := map[bool]int{}
	for n := range 400 {
		many := 2 + source.Intn(40)
		g := chanceGraph(source, many, n%3)
		for _, id := range manyIds(many)[:min(many, 5)] {
			order := breadthFirst(g.get, id, api.MaxClosure)
			for _, from := range manyIds(many) {
				want := slices.Contains(order, from)
				wantDescends(t, g.get, id, from, want)
				if id != from {
					seen[want]++
				}
			}
		}
	}
	if seen[true] < 1000 || seen[false] < 1000 {
		t.Errorf("too few of one sort: %v", seen)
	}
}
