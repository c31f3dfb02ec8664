package refs

import (
	"math/rand"
	"slices"
	"strconv"
	"testing"

	"cartulary/api"
)

func TestP8_3Set(t *testing.T) {
	one, two, three := made("one"), made("two"), made("three")
	a, b, c := api.Ref{Name: "a", Id: one}, api.Ref{Name: "a/b", Id: two}, api.Ref{Name: "a0", Id: three}
	for _, test := range []struct {
		list          []api.Ref
		name, old, id string
		want          []api.Ref
	}{
		{nil, "a", "", one, []api.Ref{a}},
		{[]api.Ref{}, "a", "", one, []api.Ref{a}},
		{[]api.Ref{b, c}, "a", "", one, []api.Ref{a, b, c}},
		{[]api.Ref{a, c}, "a/b", "", two, []api.Ref{a, b, c}},
		{[]api.Ref{a, b}, "a0", "", three, []api.Ref{a, b, c}},
		{[]api.Ref{a, b, c}, "a", one, two, []api.Ref{{Name: "a", Id: two}, b, c}},
		{[]api.Ref{a, b, c}, "a/b", two, one, []api.Ref{a, {Name: "a/b", Id: one}, c}},
		{[]api.Ref{a, b, c}, "a0", three, two, []api.Ref{a, b, {Name: "a0", Id: two}}},
		{[]api.Ref{a, b, c}, "a/b", two, two, []api.Ref{a, b, c}},
		{[]api.Ref{a, b, c}, "a", one, "", []api.Ref{b, c}},
		{[]api.Ref{a, b, c}, "a/b", two, "", []api.Ref{a, c}},
		{[]api.Ref{a, b, c}, "a0", three, "", []api.Ref{a, b}},
		{[]api.Ref{a}, "a", one, "", nil},
		{[]api.Ref{a, b, c}, "none", "", "", []api.Ref{a, b, c}},
		{nil, "a", "", "", nil},
	} {
		wantSet(t, test.list, test.name, test.old, test.id, test.want, api.OK)
	}
}

func TestP8_3SetErrors(t *testing.T) {
	full := numbered(api.MaxRefs)
	for _, l := range wrongLists() {
		for _, name := range []string{"a", "b", "none", "n10", "", "/"} {
			for _, old := range []string{"", made("0"), made("1"), "x"} {
				wantNoSet(t, l, name, old, made("other"), api.ErrRange)
				wantNoSet(t, l, name, old, "", api.ErrRange)
				wantNoSet(t, l, name, old, "x", api.ErrRange)
			}
		}
	}
	for _, l := range rightLists() {
		for _, name := range noNames() {
			wantNoSet(t, l, name, "", made("other"), api.ErrForm)
			wantNoSet(t, l, name, "", "", api.ErrForm)
			wantNoSet(t, l, name, made("other"), made("other"), api.ErrForm)
			wantNoSet(t, l, name, "x", "x", api.ErrForm)
		}
		for _, wrong := range noIds() {
			for _, name := range []string{"a", "n10", "none"} {
				wantNoSet(t, l, name, wrong, made("other"), api.ErrForm)
				wantNoSet(t, l, name, wrong, "", api.ErrForm)
				wantNoSet(t, l, name, "", wrong, api.ErrForm)
				wantNoSet(t, l, name, made("0"), wrong, api.ErrForm)
				wantNoSet(t, l, name, made("other"), wrong, api.ErrForm)
			}
		}
		for _, id := range []string{"", made("other"), made("wrong")} {
			wantNoSet(t, l, "none", made("wrong"), id, api.ErrOld)
			for _, r := range l {
				wantNoSet(t, l, r.Name, made("wrong"), id, api.ErrOld)
				wantNoSet(t, l, r.Name, "", id, api.ErrOld)
			}
		}
	}
	for _, name := range []string{"a", "n11", "n33", "none", "zz"} {
		wantNoSet(t, full, name, "", made("other"), api.ErrFull)
		wantNoSet(t, full, name, made("wrong"), made("other"), api.ErrOld)
	}
}

// A full list can be changed as long as it gets no more refs.
func TestP8_3SetInFullList(t *testing.T) {
	full := numbered(api.MaxRefs)
	for i, r := range full {
		changed := slices.Clone(full)
		changed[i].Id = made("other")
		without := slices.Delete(slices.Clone(full), i, i+1)
		wantSet(t, full, r.Name, r.Id, made("other"), changed, api.OK)
		wantSet(t, full, r.Name, r.Id, "", without, api.OK)
		wantSet(t, full, r.Name, r.Id, r.Id, full, api.OK)
		wantSet(t, without, r.Name, "", r.Id, full, api.OK)
		wantSet(t, full, r.Name+"x", "", "", full, api.OK)
	}
}

// Each triple of a name and two values, right ones and wrong ones, on each valid list.
func TestP8_3SetOnEachList(t *testing.T) {
	values := []string{"", made("0"), made("1"), made("2"), made("same"), made("other"), "x", made("0") + "="}
	for _, l := range rightLists() {
		names := []string{"", "a", "a/b", "b", "c", "main", "n10", "n11", "n72", "z", "A"}
		for _, name := range names {
			for _, old := range values {
				for _, id := range values {
					want, bad := slowSet(l, name, old, id)
					wantSet(t, l, name, old, id, want, bad)
				}
			}
		}
	}
}

// Many changes, one upon another.
func TestP8_3SetByChance(t *testing.T) {
	random := rand.New(rand.NewSource(83))
	seen := map[api.Errno]int{}
	for range 50 {
		var l []api.Ref
		for range 300 {
			name := []string{"", "a", "a-", "a/", "b", "dev/", "main/x"}[random.Intn(7)] + strconv.Itoa(random.Intn(8))
			old, id := Get(l, name), made(strconv.Itoa(random.Intn(3)))
			switch random.Intn(12) {
			case 0:
				old = made(strconv.Itoa(random.Intn(3)))
			case 1, 2:
				id = ""
			case 3:
				name += "."
			case 4:
				id += "="
			}
			want, bad := slowSet(l, name, old, id)
			wantSet(t, l, name, old, id, want, bad)
			seen[bad]++
			if bad != api.OK {
				continue
			}
			l, _ = Set(l, name, old, id)
			if !Good(l) || Get(l, name) != id {
				t.Fatalf("after Set of %q to %q: %q", name, id, l)
			}
		}
	}
	for _, bad := range []api.Errno{api.OK, api.ErrForm, api.ErrOld, api.ErrFull} {
		if seen[bad] < 100 {
			t.Errorf("error %d was met %d times", bad, seen[bad])
		}
	}
}
