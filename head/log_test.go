package head

import (
	"slices"
	"testing"

	"cartulary/api"
)

// wantLeaves also asks that neither the log nor the room behind it is touched.
func wantLeaves(t *testing.T, l []api.Step, want []string, wantBad api.Errno) {
	t.Helper()
	before, roomy := cloneLog(l), append(slices.Clone(l), api.Step{Ref: "spare"})
	got, bad := Leaves(roomy[:len(l)])
	if !slices.Equal(got, want) || bad != wantBad {
		t.Errorf("Leaves of %d steps = %d leaves %.300q, %d, want %d, %.300q, %d", len(l), len(got), got, bad, len(want), want, wantBad)
	}
	clear(got)
	_ = append(got, "other")
	if !slices.EqualFunc(roomy[:len(l)], before, sameStep) || roomy[len(l)].Ref != "spare" {
		t.Errorf("Leaves of %d steps touches its argument", len(l))
	}
}

// wantOf also asks that neither the log nor the room behind it is touched.
func wantOf(t *testing.T, l []api.Step, want api.Head, wantBad api.Errno) {
	t.Helper()
	before, roomy := cloneLog(l), append(slices.Clone(l), api.Step{Ref: "spare"})
	if got, bad := Of(roomy[:len(l)]); got != want || bad != wantBad {
		t.Errorf("Of %d steps = %s, %d, want %s, %d", len(l), describe(got), bad, describe(want), wantBad)
	}
	if !slices.EqualFunc(roomy[:len(l)], before, sameStep) || roomy[len(l)].Ref != "spare" {
		t.Errorf("Of %d steps touches its argument", len(l))
	}
}

func TestP11_3Leaves(t *testing.T) {
	wantLeaves(t, nil, nil, api.OK)
	wantLeaves(t, []api.Step{}, nil, api.OK)
	id, seal := digest("id"), digest("seal")
	wantLeaves(t, []api.Step{
		{Ref: "main", New: id},
		{Ref: "main", Old: id, Who: []int{3}, Seals: []string{seal}},
	}, []string{
		"\x04main\x00\x20" + id + "\x00",
		"\x04main\x20" + id + "\x00\x01\x03" + seal,
	}, api.OK)
	l := logOf(api.MaxLog)
	for size := range l {
		wantLeaves(t, l[:size+1], leavesOf(l[:size+1]), api.OK)
		wantLeaves(t, l[size:], leavesOf(l[size:]), api.OK)
	}
	same := []api.Step{l[4], l[4], l[4]}
	wantLeaves(t, same, leavesOf(same), api.OK)
}

// A limit of the steps is none of the concern of Leaves.
func TestP11_3LeavesOfManySteps(t *testing.T) {
	for _, many := range []int{api.MaxLog + 1, 3 * api.MaxLog} {
		wantLeaves(t, logOf(many), leavesOf(logOf(many)), api.OK)
	}
}

// Whether a log can be replayed is not asked.
func TestP11_3LeavesThatCannotBeReplayed(t *testing.T) {
	id := digest("id")
	l := []api.Step{{Ref: "main", Old: id}, {Ref: "main", New: id}, {Ref: "main", New: id}}
	wantLeaves(t, l, leavesOf(l), api.OK)
	wantOf(t, l, headOf(l), api.OK)
}

func TestP11_3WrongSteps(t *testing.T) {
	l := logOf(9)
	for _, e := range wrongSteps() {
		for at := range l {
			wantLeaves(t, with(l, at, e.step), nil, e.want)
			wantOf(t, with(l, at, e.step), api.Head{}, e.want)
		}
	}
}

func TestP11_3FirstWrongStep(t *testing.T) {
	l := logOf(9)
	for _, first := range wrongSteps() {
		for _, second := range wrongSteps() {
			for at := range len(l) - 1 {
				both := with(with(l, at, first.step), len(l)-1, second.step)
				wantLeaves(t, both, nil, first.want)
				wantOf(t, both, api.Head{}, first.want)
			}
		}
	}
}

func TestP11_3Of(t *testing.T) {
	wantOf(t, nil, Empty(), api.OK)
	wantOf(t, []api.Step{}, Empty(), api.OK)
	l := logOf(api.MaxLog)
	for size := range l {
		wantOf(t, l[:size+1], headOf(l[:size+1]), api.OK)
		wantOf(t, l[size:], headOf(l[size:]), api.OK)
	}
}

func TestP11_3OfTooManySteps(t *testing.T) {
	for _, many := range []int{api.MaxLog + 1, api.MaxLog + 2, 256, 3 * api.MaxLog} {
		l := logOf(many)
		wantOf(t, l, api.Head{}, api.ErrFull)
		for _, e := range wrongSteps() {
			for _, at := range []int{0, api.MaxLog - 1, many - 1} {
				wantOf(t, with(l, at, e.step), api.Head{}, api.ErrFull)
			}
		}
	}
	for _, e := range wrongSteps() {
		wantOf(t, with(logOf(api.MaxLog), api.MaxLog-1, e.step), api.Head{}, e.want)
	}
}

// Whatever is other in a log, a seal too, makes it have another head.
func TestP11_3OfOtherLogs(t *testing.T) {
	l := logOf(60)
	logs := [][]api.Step{l}
	for at := range l {
		logs = append(logs, l[:at], append(slices.Clone(l), l[at]))
		for _, change := range []func(s *api.Step){
			func(s *api.Step) { s.Ref += "x" },
			func(s *api.Step) { s.Old = digest("other" + s.Old) },
			func(s *api.Step) { s.New = digest("other" + s.New) },
			func(s *api.Step) { s.Who, s.Seals = []int{7}, []string{digest("other")} },
		} {
			other := cloneLog(l)
			change(&other[at])
			logs = append(logs, other)
		}
		if at > 0 {
			swapped := slices.Clone(l)
			swapped[at-1], swapped[at] = l[at], l[at-1]
			logs = append(logs, swapped)
		}
	}
	seen := map[api.Head]int{}
	for i, other := range logs {
		h, bad := Of(other)
		if bad != api.OK {
			t.Fatalf("Of log %d: %d", i, bad)
		}
		if before, twice := seen[h]; twice {
			t.Errorf("logs %d and %d have one head", before, i)
		}
		seen[h] = i
	}
}
