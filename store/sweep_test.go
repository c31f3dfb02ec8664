package store

import (
	"math/rand"
	"slices"
	"strconv"
	"strings"
	"testing"

	"cartulary/api"
	"cartulary/disk"
)

func wantSweep(t *testing.T, d api.Disk, ids []string, want api.Disk, wantBad api.Errno) {
	t.Helper()
	given, givenIds := roomy(d), append(slices.Clone(ids), "spare")
	if got, bad := Sweep(given, givenIds[:len(ids)]); !sameDisk(got, want) || bad != wantBad {
		t.Errorf("Sweep(%s, %.200q) = %s, %d, want %s, %d", short(d), ids, short(got), bad, short(want), wantBad)
	}
	wantKept(t, given, d)
	wantStrings(t, "the ids behind Sweep", givenIds, append(slices.Clone(ids), "spare"))
}

// forest is some objects that lead to one another, and by each id those that it leads to.
func forest() ([]string, map[string][]string) {
	x, y, lone := blob("x"), blob("y"), blob("lone")
	root, other := tree(idFor(x), idFor(y)), tree(idFor(y))
	one := commit(idFor(root))
	two := commit(idFor(other), idFor(one))
	v1 := tag(idFor(one))
	return []string{x, y, lone, root, other, one, two, v1}, map[string][]string{
		idFor(x): {x}, idFor(lone): {lone}, idFor(root): {root, x, y}, idFor(other): {other, y}, idFor(one): {one, root, x, y},
		idFor(two): {two, other, one, root, x, y}, idFor(v1): {v1, one, root, x, y},
	}
}

func TestP7_6Sweep(t *testing.T) {
	objects, closures := forest()
	for id, kept := range closures {
		removed := len(objects) - len(kept)
		for _, fuse := range []int{removed, removed + 1, 100, -1, -3} {
			left := fuse
			if fuse >= 0 {
				left = fuse - removed
			}
			wantSweep(t, holdingWith(fuse, objects...), []string{id}, holdingWith(left, kept...), api.OK)
			wantSweep(t, fused(with(holding(objects...), strays()...), fuse), []string{id, id}, fused(with(holding(kept...), strays()...), left), api.OK)
		}
	}
	two, v1, lone := idFor(objects[6]), idFor(objects[7]), idFor(objects[2])
	wantSweep(t, holding(objects...), []string{v1, two, lone}, holding(objects...), api.OK)
	wantSweep(t, holding(objects...), []string{lone, v1}, holding(append([]string{objects[2]}, closures[v1]...)...), api.OK)
	wantSweep(t, holding(objects...), nil, holding(), api.OK)
	wantSweep(t, with(holding(objects...), strays()...), nil, diskOf(-1, strays()...), api.OK)
}

// A disk with nothing to remove is as it was, whatever its power.
func TestP7_6SweepOfNothing(t *testing.T) {
	objects, _ := forest()
	for _, fuse := range fuses {
		for _, d := range []api.Disk{{}, diskOf(-1, strays()...), diskOf(-1, numbered(api.MaxFiles)...)} {
			wantSweep(t, fused(d, fuse), nil, fused(d, fuse), api.OK)
		}
		d := fused(with(holding(objects...), strays()...), fuse)
		wantSweep(t, d, idsFor(objects...), d, api.OK)
	}
}

// An object file is told by its name alone, whatever its content.
func TestP7_6SweepOfOtherContent(t *testing.T) {
	x := blob("x")
	digits := strings.Repeat("0123456789abcdef", 4)
	for _, name := range []string{"o" + digits, "o" + strings.Repeat("0", 64), "o" + strings.Repeat("f", 64), fileOf(idFor(blob("y"))), fileOf(idFor("junk"))} {
		for _, f := range []api.File{{}, {Safe: "junk"}, {Tail: "junk"}, {Safe: x}, {Safe: "ju", Tail: "nk"}} {
			f.Name = name
			wantSweep(t, with(holdingWith(1, x), f), idsFor(x), holdingWith(0, x), api.OK)
			wantSweep(t, diskOf(3, append(strays(), f)...), nil, diskOf(2, strays()...), api.OK)
		}
	}
	// What isn't safe of an object that is kept stays as it is.
	d := diskOf(0, api.File{Name: fileOf(idFor(x)), Safe: x[:1], Tail: x[1:]})
	wantSweep(t, d, idsFor(x), d, api.OK)
}

func TestP7_6SweepErrorsOfClosure(t *testing.T) {
	x := blob("x")
	lacks, odd := tree(idFor(x), made("lacking")), tree(idFor(x), idFor("junk"))
	for _, fuse := range fuses {
		d := fused(with(holding(x, lacks, odd, "junk", blob("lone")), strays()...), fuse)
		for _, ids := range [][]string{{idFor(lacks)}, {made("lacking")}, {"short"}, {""}, {idFor(x), made("lacking")}, {idFor(odd), idFor(lacks)}} {
			wantSweep(t, d, ids, d, api.ErrNone)
		}
		for _, ids := range [][]string{{idFor(odd)}, {idFor("junk")}, {idFor("junk"), idFor(x)}} {
			wantSweep(t, d, ids, d, api.ErrForm)
		}
	}
	spoiltX := diskOf(-1, api.File{Name: fileOf(idFor(x)), Safe: x, Tail: "x"})
	wantSweep(t, spoiltX, idsFor(x), spoiltX, api.ErrNone)
	wantSweep(t, spoiltX, nil, api.Disk{Fuse: -1}, api.OK)
}

func TestP7_6SweepOfWrongDisks(t *testing.T) {
	objects, _ := forest()
	for _, d := range spoilt(holding(objects...).Files) {
		// Nothing can be read, and nothing removed.
		wantSweep(t, d, idsFor(objects[0]), d, api.ErrNone)
		wantSweep(t, d, nil, d, api.ErrRange)
	}
	// There is no step without an object file.
	for _, d := range spoilt(strays()) {
		wantSweep(t, d, nil, d, api.OK)
	}
}

// The power fails behind each file that is removed: those with the least ids are gone then.
func TestP7_6SweepWithoutPower(t *testing.T) {
	objects, closures := forest()
	for id, kept := range closures {
		var removed []string
		for _, s := range objects {
			if !slices.Contains(kept, s) {
				removed = append(removed, s)
			}
		}
		slices.SortFunc(removed, func(a, b string) int { return strings.Compare(idFor(a), idFor(b)) })
		for fuse := range removed {
			d := fused(with(holding(objects...), strays()...), fuse)
			left := append(slices.Clone(kept), removed[fuse:]...)
			want := fused(with(holding(left...), strays()...), 0)
			wantSweep(t, d, []string{id}, want, api.ErrPower)
			// When the power is back, another sweep removes the others.
			after, _ := Sweep(d, []string{id})
			after, _ = disk.Crash(after, 0)
			wantSweep(t, after, []string{id}, with(holding(kept...), strays()...), api.OK)
		}
	}
}

func TestP7_6SweepOfManyFiles(t *testing.T) {
	var objects []string
	for i := range api.MaxFiles - 1 {
		objects = append(objects, blob("object "+strconv.Itoa(i)))
	}
	kept := objects[:api.MaxEntries]
	root := tree(idsFor(kept...)...)
	d := holding(append(objects, root)...)
	wantSweep(t, d, []string{idFor(root)}, holding(append(slices.Clone(kept), root)...), api.OK)
	wantSweep(t, d, nil, holding(), api.OK)
	wantSweep(t, d, idsFor(append(objects, root)...), d, api.OK)
}

// Behind a sweep just the closure is there.
func TestP7_6SweepByChance(t *testing.T) {
	source := rand.New(rand.NewSource(74))
	for range 150 {
		var objects []string
		for range 30 {
			link := func() string { return idFor(objects[source.Intn(len(objects))]) }
			switch s := blob(strconv.Itoa(source.Intn(1000))); source.Intn(4) {
			case 0:
				objects = append(objects, s)
			default:
				if len(objects) < 2 {
					objects = append(objects, s)
					continue
				}
				objects = append(objects, commit(link(), link()), tree(link(), link()))
			}
		}
		d := with(holding(slices.Compact(slices.Sorted(slices.Values(objects)))...), strays()...)
		ids := idsFor(objects[source.Intn(len(objects))], objects[source.Intn(len(objects))])
		want, wantBad := slowReach(func(id string) (string, api.Errno) { return Get(d, id) }, ids)
		got, bad := Sweep(d, ids)
		if bad != wantBad || bad != api.OK {
			t.Fatalf("Sweep(%s, %q) = %d, want %d", short(d), ids, bad, wantBad)
		}
		wantStrings(t, "Ids behind Sweep", Ids(got), want)
		if len(got.Files) != len(want)+len(strays()) {
			t.Errorf("Sweep left %d files, want %d", len(got.Files), len(want)+len(strays()))
		}
	}
}
