package store

import (
	"maps"
	"math/rand"
	"slices"
	"strconv"
	"strings"
	"testing"

	"cartulary/api"
	"cartulary/object"
)

// graph tells encoded objects by made-up ids, so that they may lead to one another in circles.
type graph map[string]string

func (g graph) get(id string) (string, api.Errno) {
	s, found := g[id]
	if !found {
		return "", api.ErrNone
	}
	return s, api.OK
}

// slowReach is another way to Reach, for graphs that end: it adds what the ids lead to until nothing is added.
func slowReach(get func(id string) (string, api.Errno), ids []string) ([]string, api.Errno) {
	reached := map[string]bool{}
	for _, id := range ids {
		reached[id] = true
	}
	for before := -1; before < len(reached); {
		before = len(reached)
		for _, id := range slices.Collect(maps.Keys(reached)) {
			s, bad := get(id)
			o, noObject := object.Decode(s)
			if bad == api.OK && noObject == api.OK {
				for _, link := range object.Links(o) {
					reached[link] = true
				}
			}
		}
	}
	objects, errors, others := 0, 0, 0
	for id := range reached {
		s, bad := get(id)
		_, noObject := object.Decode(s)
		switch {
		case bad != api.OK:
			errors++
		case noObject != api.OK:
			others++
		default:
			objects++
		}
	}
	switch {
	case objects > api.MaxClosure:
		return nil, api.ErrFull
	case errors > 0:
		return nil, api.ErrNone
	case others > 0:
		return nil, api.ErrForm
	}
	return slices.Sorted(maps.Keys(reached)), api.OK
}

func wantReach(t *testing.T, get func(id string) (string, api.Errno), ids, want []string, wantBad api.Errno) {
	t.Helper()
	given := append(slices.Clone(ids), "spare")
	got, bad := Reach(get, given[:len(ids)])
	if !slices.Equal(got, want) || bad != wantBad {
		t.Errorf("Reach(%.200q) = %d ids %.300q, %d, want %d ids %.300q, %d", ids, len(got), got, bad, len(want), want, wantBad)
	}
	if !slices.Equal(given, append(slices.Clone(ids), "spare")) {
		t.Errorf("Reach changed its argument %.200q to %.200q", ids, given)
	}
}

// a is the made-up ids of names with spaces between.
func a(names string) []string {
	var ids []string
	for _, n := range strings.Fields(names) {
		ids = append(ids, made(n))
	}
	return ids
}

// family has all kinds of objects, and a circle.
func family() graph {
	return graph{
		made("x"):       blob("x"),
		made("y"):       blob("y"),
		made("none"):    tree(),
		made("t"):       tree(a("x y")...),
		made("top"):     tree(a("t z t none")...),
		made("z"):       blob(""),
		made("one"):     commit(made("t")),
		made("two"):     commit(made("top"), made("one")),
		made("side"):    commit(made("none")),
		made("three"):   commit(made("t"), a("two side one")...),
		made("v1"):      tag(made("one")),
		made("v2"):      tag(made("v1")),
		made("self"):    tag(made("self")),
		made("round"):   commit(made("none"), made("about")),
		made("about"):   commit(made("none"), made("circle")),
		made("circle"):  commit(made("z"), made("round")),
		made("lacks"):   tree(a("x lacking y")...),
		made("odd"):     tree(a("x junk y")...),
		made("junk"):    "junk",
		made("empty"):   "",
		made("both"):    tree(a("junk lacking")...),
		made("bothtoo"): tree(a("lacking junk")...),
	}
}

func TestP7_4Reach(t *testing.T) {
	g := family()
	for _, test := range []struct{ ids, want string }{
		{"", ""},
		{"x", "x"},
		{"none", "none"},
		{"t", "t x y"},
		{"top", "none t top x y z"},
		{"one", "one t x y"},
		{"two", "none one t top two x y z"},
		{"three", "none one side t three top two x y z"},
		{"v1", "one t v1 x y"},
		{"v2", "one t v1 v2 x y"},
		{"self", "self"},
		{"round", "about circle none round z"},
		{"circle", "about circle none round z"},
		{"y x", "x y"},
		{"x x x", "x"},
		{"t x t y one one", "one t x y"},
		{"side v1", "none one side t v1 x y"},
		{"round self x", "about circle none round self x z"},
	} {
		want := a(test.want)
		slices.Sort(want)
		wantReach(t, g.get, a(test.ids), want, api.OK)
		slow, _ := slowReach(g.get, a(test.ids))
		wantStrings(t, "the slow way to "+test.ids, slow, want)
	}
}

// The ids rise by their bytes, not by letters or numbers.
func TestP7_4ReachRises(t *testing.T) {
	ids := []string{"\x00", "\x00\x00", "\x7f", "\x80", "\xff", "A", "a", "B", "\u00e9", "10", "9"}
	g := graph{}
	for i := range ids {
		ids[i] = made(ids[i])
		g[ids[i]] = blob(ids[i])
	}
	g[made("tree")] = tree(ids...)
	want := slices.Sorted(slices.Values(append(ids, made("tree"))))
	wantReach(t, g.get, a("tree"), want, api.OK)
	wantReach(t, g.get, ids, slices.Sorted(slices.Values(ids)), api.OK)
}

func TestP7_4ReachErrors(t *testing.T) {
	g := family()
	for _, test := range []struct {
		ids  string
		want api.Errno
	}{
		{"lacking", api.ErrNone}, {"lacks", api.ErrNone}, {"x lacking", api.ErrNone}, {"lacking x", api.ErrNone}, {"three lacks", api.ErrNone},
		{"junk", api.ErrForm}, {"empty", api.ErrForm}, {"odd", api.ErrForm}, {"x junk y", api.ErrForm}, {"three odd", api.ErrForm},
		// That one is lacking goes ahead of one being no object, whichever comes first.
		{"junk lacking", api.ErrNone}, {"lacking junk", api.ErrNone}, {"both", api.ErrNone}, {"bothtoo", api.ErrNone},
		{"odd lacks", api.ErrNone}, {"lacks odd", api.ErrNone}, {"junk empty lacks", api.ErrNone},
	} {
		wantReach(t, g.get, a(test.ids), nil, test.want)
	}
	for s := range noObjects() {
		g[made("wrong")] = s
		wantReach(t, g.get, a("x wrong"), nil, api.ErrForm)
		wantReach(t, g.get, a("wrong lacking"), nil, api.ErrNone)
	}
	// What is no id is asked for as well.
	for _, id := range []string{"", "x", strings.Repeat("i", 33)} {
		wantReach(t, g.get, []string{id}, nil, api.ErrNone)
		wantReach(t, g.get, []string{made("junk"), id, made("x")}, nil, api.ErrNone)
		wantReach(t, graph{id: tag(made("x")), made("x"): blob("x")}.get, []string{id}, slices.Sorted(slices.Values([]string{id, made("x")})), api.OK)
	}
}

// Every error of get is that there is nothing, whatever else it returns.
func TestP7_4ReachOfErrorsWithContent(t *testing.T) {
	for _, bad := range []api.Errno{api.ErrLong, api.ErrForm, api.ErrSum, api.ErrNone, api.ErrFull, api.ErrPower, -1, 100} {
		for _, s := range []string{"", "junk", blob("x"), tag(made("x"))} {
			get := func(id string) (string, api.Errno) {
				if id == made("bad") {
					return s, bad
				}
				return family().get(id)
			}
			wantReach(t, get, a("bad"), nil, api.ErrNone)
			wantReach(t, get, a("junk bad x"), nil, api.ErrNone)
			wantReach(t, get, a("x y"), a("x y"), api.OK)
		}
	}
}

func TestP7_4ReachWithoutFunction(t *testing.T) {
	wantReach(t, nil, nil, nil, api.OK)
	wantReach(t, nil, a("x"), nil, api.ErrNone)
}

// crowd is so many commits in a row, each the parent of the one ahead of it, whose trees are all the one of the last commit.
func crowd(many int) graph {
	g := graph{}
	for i := range many {
		g[made("c"+strconv.Itoa(1000+i))] = commit(made("root"), made("c"+strconv.Itoa(1001+i)))
	}
	g[made("c"+strconv.Itoa(999+many))] = commit(made("root"))
	g[made("root")] = tree()
	return g
}

func TestP7_4ReachOfTooMany(t *testing.T) {
	for _, many := range []int{1, 2, 10, api.MaxClosure - 2, api.MaxClosure - 1} {
		g := crowd(many)
		wantReach(t, g.get, a("c1000"), slices.Sorted(maps.Keys(g)), api.OK)
	}
	for _, many := range []int{api.MaxClosure, api.MaxClosure + 1, 2000} {
		g := crowd(many)
		wantReach(t, g.get, a("c1000"), nil, api.ErrFull)
		wantReach(t, g.get, slices.Collect(maps.Keys(g)), nil, api.ErrFull)
	}
	// Those that are named at the start count too, each once.
	g := graph{}
	for i, id := range manyIds(api.MaxClosure + 1) {
		g[id] = blob(strconv.Itoa(i))
	}
	ids := manyIds(api.MaxClosure + 1)
	wantReach(t, g.get, ids, nil, api.ErrFull)
	wantReach(t, g.get, ids[1:], ids[1:], api.OK)
	wantReach(t, g.get, slices.Repeat(ids[1:], 3), ids[1:], api.OK)
}

// There being too many objects goes ahead of every other error, wherever it comes up; only objects count.
func TestP7_4ReachOfTooManyAndWrong(t *testing.T) {
	lacking, junk := made("lacking"), made("junk")
	for _, wrong := range [][]string{{lacking}, {junk}, {lacking, junk}, {junk, lacking}} {
		full, fits := crowd(api.MaxClosure), crowd(api.MaxClosure-1)
		full[junk], fits[junk] = "junk", "junk"
		want := api.ErrNone
		if !slices.Contains(wrong, lacking) {
			want = api.ErrForm
		}
		for _, ids := range [][]string{append(slices.Clone(wrong), made("c1000")), append(a("c1000"), wrong...)} {
			wantReach(t, full.get, ids, nil, api.ErrFull)
			wantReach(t, fits.get, ids, nil, want)
		}
		// At the first of them, and in their midst.
		for _, at := range []int{1000, 1200, 1397} {
			id, parents := made("c"+strconv.Itoa(at)), append(a("c"+strconv.Itoa(at+1)), wrong...)
			full[id], fits[id] = commit(made("root"), parents...), commit(made("root"), parents...)
			wantReach(t, full.get, a("c1000"), nil, api.ErrFull)
			wantReach(t, fits.get, a("c1000"), nil, want)
		}
	}
	// However many are lacking or are no objects, they are not too many objects.
	ids := manyIds(3 * api.MaxClosure)
	wantReach(t, graph{}.get, ids, nil, api.ErrNone)
	g := graph{}
	for _, id := range ids {
		g[id] = "junk"
	}
	wantReach(t, g.get, ids, nil, api.ErrForm)
	for i, id := range ids[:api.MaxClosure] {
		g[id] = blob(strconv.Itoa(i))
	}
	wantReach(t, g.get, ids, nil, api.ErrForm)
	g[ids[api.MaxClosure]] = blob("one more")
	wantReach(t, g.get, ids, nil, api.ErrFull)
}

// Links without end are too many.
func TestP7_4ReachWithoutEnd(t *testing.T) {
	for width := 1; width <= api.MaxParents; width++ {
		wantReach(t, endless(width), a("start"), nil, api.ErrFull)
		wantReach(t, endless(width), append(manyIds(300), "short"), nil, api.ErrFull)
	}
	trees := func(id string) (string, api.Errno) {
		var ids []string
		for i := range api.MaxEntries {
			ids = append(ids, idFor(id+strconv.Itoa(i)))
		}
		return tree(ids...), api.OK
	}
	wantReach(t, trees, a("start"), nil, api.ErrFull)
	tags := func(id string) (string, api.Errno) { return tag(idFor(id)), api.OK }
	wantReach(t, tags, a("start"), nil, api.ErrFull)
}

// endless tells a commit for each id, with so many parents that are like no other's.
func endless(width int) func(id string) (string, api.Errno) {
	return func(id string) (string, api.Errno) {
		var parents []string
		for i := range width {
			parents = append(parents, idFor(id+strconv.Itoa(i)))
		}
		return commit(made("root"), parents...), api.OK
	}
}

// chanceGraph has so many objects of all kinds, with links to one another, and now and then to nothing or to no object.
func chanceGraph(source *rand.Rand, many, wrong int) graph {
	g := graph{}
	ids := manyIds(many)
	link := func() string { return ids[source.Intn(many)] }
	for _, id := range ids {
		var links []string
		for range source.Intn(4) {
			if l := link(); !slices.Contains(links, l) {
				links = append(links, l)
			}
		}
		switch source.Intn(5) {
		case 0:
			g[id] = blob(id)
		case 1:
			g[id] = tree(links...)
		case 2:
			g[id] = tag(link())
		default:
			g[id] = commit(link(), links...)
		}
		switch source.Intn(2 * many) {
		case 0:
			if wrong > 0 {
				delete(g, id)
			}
		case 1, 2:
			if wrong > 1 {
				g[id] = "junk"
			}
		}
	}
	return g
}

func TestP7_4ReachByChance(t *testing.T) {
	source := rand.New(rand.NewSource(72))
	seen := map[api.Errno]int{}
	for n := range 600 {
		many := 1 + source.Intn(60)
		if n%20 == 0 {
			many = 380 + source.Intn(100)
		}
		g := chanceGraph(source, many, n%3)
		for range 3 {
			var ids []string
			for range source.Intn(4) {
				ids = append(ids, manyIds(many)[source.Intn(many)])
			}
			if many > 100 {
				ids = manyIds(many)
			}
			want, wantBad := slowReach(g.get, ids)
			wantReach(t, g.get, ids, want, wantBad)
			seen[wantBad]++
		}
	}
	for _, bad := range []api.Errno{api.OK, api.ErrFull, api.ErrNone, api.ErrForm} {
		if seen[bad] < 20 {
			t.Errorf("only %d with %d", seen[bad], bad)
		}
	}
}

func wantClosure(t *testing.T, d api.Disk, ids, want []string, wantBad api.Errno) {
	t.Helper()
	given := roomy(d)
	got, bad := Closure(given, ids)
	if !slices.Equal(got, want) || bad != wantBad {
		t.Errorf("Closure(%s, %.200q) = %.300q, %d, want %.300q, %d", short(d), ids, got, bad, want, wantBad)
	}
	wantKept(t, given, d)
}

func idsFor(objects ...string) []string {
	var ids []string
	for _, s := range objects {
		ids = append(ids, idFor(s))
	}
	return slices.Compact(slices.Sorted(slices.Values(ids)))
}

func TestP7_4Closure(t *testing.T) {
	x, y, lone := blob("x"), blob("y"), blob("lone")
	root := tree(idFor(x), idFor(y))
	one := commit(idFor(root))
	two := commit(idFor(root), idFor(one))
	v1 := tag(idFor(two))
	d := with(holding(x, y, lone, root, one, two, v1), strays()...)
	for _, fuse := range fuses {
		d.Fuse = fuse
		wantClosure(t, d, nil, nil, api.OK)
		wantClosure(t, d, idsFor(lone), idsFor(lone), api.OK)
		wantClosure(t, d, idsFor(root), idsFor(root, x, y), api.OK)
		wantClosure(t, d, idsFor(two), idsFor(two, one, root, x, y), api.OK)
		wantClosure(t, d, idsFor(v1, lone), idsFor(v1, two, one, root, x, y, lone), api.OK)
		wantClosure(t, d, []string{idFor(y), idFor(x), idFor(y)}, idsFor(x, y), api.OK)
	}
	for _, ids := range [][]string{{idFor("none")}, {""}, {"short"}, {idFor(v1), idFor(x) + "x"}, {idFor("none"), idFor(x)}} {
		wantClosure(t, d, ids, nil, api.ErrNone)
	}
	for _, gone := range []string{x, y, root, one, two, v1} {
		without := diskOf(-1, slices.DeleteFunc(slices.Clone(d.Files), func(f api.File) bool { return f.Name == fileOf(idFor(gone)) })...)
		wantClosure(t, without, idsFor(v1), nil, api.ErrNone)
		// Another content is as good as none.
		wantClosure(t, with(without, api.File{Name: fileOf(idFor(gone)), Safe: gone, Tail: "x"}), idsFor(v1), nil, api.ErrNone)
		wantClosure(t, with(without, api.File{Name: fileOf(idFor(gone)), Safe: gone}), idsFor(v1), idsFor(v1, two, one, root, x, y), api.OK)
	}
}

func TestP7_4ClosureErrors(t *testing.T) {
	x := blob("x")
	for s := range noObjects() {
		odd := tree(idFor(s), idFor(x))
		d := holding(s, odd, x)
		wantClosure(t, d, idsFor(x), idsFor(x), api.OK)
		wantClosure(t, d, idsFor(s), nil, api.ErrForm)
		wantClosure(t, d, idsFor(odd), nil, api.ErrForm)
		wantClosure(t, d, []string{idFor(s), idFor("none")}, nil, api.ErrNone)
		wantClosure(t, d, []string{idFor("none"), idFor(s)}, nil, api.ErrNone)
	}
	for _, d := range spoilt(holding(x).Files) {
		wantClosure(t, d, nil, nil, api.OK)
		wantClosure(t, d, idsFor(x), nil, api.ErrNone)
	}
	var objects []string
	for i := range api.MaxFiles {
		objects = append(objects, blob(strconv.Itoa(i)))
	}
	wantClosure(t, holding(objects...), idsFor(objects...), idsFor(objects...), api.OK)
}
