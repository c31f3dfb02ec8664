package step

import (
	"maps"
	"math/rand"
	"slices"
	"strconv"
	"testing"

	"cartulary/api"
)

func wantReplay(t *testing.T, k api.Keys, l []api.Step, want []api.Ref, wantAt int, wantBad api.Errno) {
	t.Helper()
	given := make([]api.Step, len(l), len(l)+1)
	for i, s := range l {
		given[i] = clone(s)
	}
	got, at, bad := Replay(k, given)
	if !slices.Equal(got, want) || at != wantAt || bad != wantBad {
		t.Errorf("Replay of %d steps = %.400q, %d, %d, want %.400q, %d, %d", len(l), got, at, bad, want, wantAt, wantBad)
	}
	if !slices.EqualFunc(given, l, sameStep) || !sameStep(given[:len(l)+1][len(l)], api.Step{}) {
		t.Errorf("Replay of %d steps touches its argument", len(l))
	}
}

// sealedLog is a log in which signers 0 and 2 have sealed each step.
func sealedLog(l ...api.Step) []api.Step {
	var sealed []api.Step
	for at, s := range l {
		sealed = append(sealed, sealedBy(s, at, 0, 2))
	}
	return sealed
}

// toAndFro is a log of so many steps that changes one ref again and again.
func toAndFro(many int) []api.Step {
	var l []api.Step
	old := ""
	for i := range many {
		id := made(strconv.Itoa(i % 7))
		l = append(l, change("main", old, id))
		old = id
	}
	return l
}

func TestP10_6Replay(t *testing.T) {
	a, b, c := made("a"), made("b"), made("c")
	for _, test := range []struct {
		log  []api.Step
		want []api.Ref
	}{
		{nil, nil},
		{[]api.Step{change("main", "", a)}, []api.Ref{{Name: "main", Id: a}}},
		{[]api.Step{change("main", "", a), change("main", a, b)}, []api.Ref{{Name: "main", Id: b}}},
		{[]api.Step{change("main", "", a), change("main", a, "")}, nil},
		{[]api.Step{change("main", "", a), change("main", a, ""), change("main", "", a)}, []api.Ref{{Name: "main", Id: a}}},
		{[]api.Step{change("b", "", b), change("c", "", c), change("a", "", a)}, []api.Ref{{Name: "a", Id: a}, {Name: "b", Id: b}, {Name: "c", Id: c}}},
		{[]api.Step{change("b", "", a), change("a", "", a), change("b", a, "")}, []api.Ref{{Name: "a", Id: a}}},
	} {
		wantReplay(t, keysOf(3, 2), sealedLog(test.log...), test.want, 0, api.OK)
		wantReplay(t, keysOf(3, 0), test.log, test.want, 0, api.OK)
		wantReplay(t, api.Keys{}, test.log, test.want, 0, api.OK)
	}
	if l, at, bad := Replay(api.Keys{Need: 9}, []api.Step{}); len(l) != 0 || at != 0 || bad != api.OK {
		t.Errorf("Replay of no steps = %q, %d, %d", l, at, bad)
	}
}

// Each step is sealed for its own place.
func TestP10_6ReplayAtEachPlace(t *testing.T) {
	l := sealedLog(toAndFro(api.MaxLog)...)
	for at := range l {
		if at > 0 {
			wantReplay(t, keysOf(3, 2), l[:at], []api.Ref{{Name: "main", Id: l[at-1].New}}, 0, api.OK)
		}
		moved := slices.Clone(l)
		moved[at] = sealedBy(l[at], (at+1)%api.MaxLog, 0, 2)
		wantReplay(t, keysOf(3, 2), moved, nil, at, api.ErrSeal)
		few := slices.Clone(l)
		few[at] = sealedBy(l[at], at, 2)
		wantReplay(t, keysOf(3, 2), few, nil, at, api.ErrSeal)
		wantReplay(t, keysOf(3, 1), few, []api.Ref{{Name: "main", Id: l[len(l)-1].New}}, 0, api.OK)
		unlike := slices.Clone(l)
		unlike[at] = sealedBy(change("main", made("other"), made("new")), at, 0, 2)
		wantReplay(t, keysOf(3, 2), unlike, nil, at, api.ErrOld)
	}
	wantReplay(t, keysOf(3, 2), l, []api.Ref{{Name: "main", Id: l[len(l)-1].New}}, 0, api.OK)
}

func TestP10_6ReplayTooMany(t *testing.T) {
	for _, many := range []int{api.MaxLog + 1, api.MaxLog + 2, 1000} {
		l := toAndFro(many)
		wantReplay(t, api.Keys{}, l, nil, 0, api.ErrFull)
		// Ahead of whatever is wrong with a step.
		for _, at := range []int{0, 1, many - 1} {
			wrong := slices.Clone(l)
			wrong[at] = api.Step{}
			wantReplay(t, api.Keys{}, wrong, nil, 0, api.ErrFull)
		}
		wantReplay(t, api.Keys{}, make([]api.Step, many), nil, 0, api.ErrFull)
	}
	wantReplay(t, api.Keys{}, make([]api.Step, api.MaxLog), nil, 0, api.ErrForm)
}

// The refs may be full, and a log may be so without them.
func TestP10_6ReplayOfManyRefs(t *testing.T) {
	var l []api.Step
	var want []api.Ref
	for i := range api.MaxRefs {
		name := "n" + strconv.Itoa(10+i)
		l = append(l, change(name, "", made(name)))
		want = append(want, api.Ref{Name: name, Id: made(name)})
	}
	wantReplay(t, api.Keys{}, l, want, 0, api.OK)
	wantReplay(t, api.Keys{}, append(slices.Clone(l), change("o", "", made("o"))), nil, api.MaxRefs, api.ErrFull)
	room := append(slices.Clone(l), change("n10", made("n10"), ""), change("o", "", made("o")))
	wantReplay(t, api.Keys{}, room, append(slices.Clone(want[1:]), api.Ref{Name: "o", Id: made("o")}), 0, api.OK)
}

// The first step that is wrong is told, and of what is wrong with it what Check tells ahead of what refs tell.
func TestP10_6ReplayOrder(t *testing.T) {
	k, a, b := keysOf(3, 2), made("a"), made("b")
	right := sealedLog(change("main", "", a), change("main", a, b), change("main", b, ""))
	wrong := []struct {
		make func(at int) api.Step
		want api.Errno
	}{
		{func(int) api.Step { return api.Step{} }, api.ErrForm},
		{func(int) api.Step { return change("main", a, a) }, api.ErrForm},
		{func(int) api.Step { return withSigners(change("main", b, a), 0, 8) }, api.ErrRange},
		{func(int) api.Step { return withSigners(change("main", b, a), make([]int, 9)...) }, api.ErrFull},
		{func(int) api.Step { return withSigners(change("main", b, a), 0, 2) }, api.ErrSeal},
		{func(int) api.Step { return change("other", b, a) }, api.ErrSeal},
		{func(at int) api.Step { return sealedBy(change("other", b, a), at, 0, 2) }, api.ErrOld},
		{func(at int) api.Step { return sealedBy(change("main", made("c"), ""), at, 0, 2) }, api.ErrOld},
	}
	for at := range right {
		for _, first := range wrong {
			l := slices.Clone(right)
			l[at] = first.make(at)
			wantReplay(t, k, l, nil, at, first.want)
			for later := at + 1; later < len(l); later++ {
				for _, second := range wrong {
					l[later] = second.make(later)
					wantReplay(t, k, l, nil, at, first.want)
				}
			}
		}
	}
}

// slowReplay is another way to Replay, for valid steps with right seals.
func slowReplay(l []api.Step) ([]api.Ref, int, api.Errno) {
	m := map[string]string{}
	for i, s := range l {
		switch {
		case m[s.Ref] != s.Old:
			return nil, i, api.ErrOld
		case s.New == "":
			delete(m, s.Ref)
		default:
			m[s.Ref] = s.New
		}
		if len(m) > 32 {
			return nil, i, api.ErrFull
		}
	}
	var all []api.Ref
	for _, name := range slices.Sorted(maps.Keys(m)) {
		all = append(all, api.Ref{Name: name, Id: m[name]})
	}
	return all, 0, api.OK
}

func TestP10_6ReplayByChance(t *testing.T) {
	random := rand.New(rand.NewSource(106))
	seen := map[api.Errno]int{}
	for range 500 {
		var l []api.Step
		names := 1 + random.Intn(60)
		now := map[string]string{}
		for range random.Intn(api.MaxLog + 1) {
			name := "n/" + strconv.Itoa(random.Intn(names))
			id := made(strconv.Itoa(random.Intn(3)))
			if random.Intn(3) == 0 {
				id = ""
			}
			old := now[name]
			if random.Intn(300) == 0 {
				old = made("wrong")
			}
			if old != id {
				l = append(l, change(name, old, id))
				now[name] = id
			}
		}
		want, at, bad := slowReplay(l)
		wantReplay(t, api.Keys{}, l, want, at, bad)
		wantReplay(t, keysOf(3, 2), sealedLog(l...), want, at, bad)
		seen[bad]++
	}
	for _, bad := range []api.Errno{api.OK, api.ErrOld, api.ErrFull} {
		if seen[bad] < 20 {
			t.Errorf("error %d was met %d times", bad, seen[bad])
		}
	}
}
