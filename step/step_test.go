package step

import (
	"strconv"
	"strings"
	"testing"

	"cartulary/api"
)

func TestP10_1Good(t *testing.T) {
	for _, s := range rightSteps() {
		wantGood(t, s, api.OK)
	}
	for _, e := range wrongSteps() {
		wantGood(t, e.step, e.want)
	}
}

// Empty lists are as good as none.
func TestP10_1GoodWithoutSigners(t *testing.T) {
	s := plain()
	s.Who, s.Seals = []int{}, nil
	wantGood(t, s, api.OK)
	s.Who, s.Seals = nil, []string{}
	wantGood(t, s, api.OK)
}

func TestP10_1GoodFromOldToNew(t *testing.T) {
	a, b := made("a"), made("b")
	for _, test := range []struct {
		old, id string
		want    api.Errno
	}{
		{"", a, api.OK}, {a, "", api.OK}, {a, b, api.OK}, {b, a, api.OK}, {"", "", api.ErrForm}, {a, a, api.ErrForm},
		{"x", a, api.ErrForm}, {a, "x", api.ErrForm}, {"x", "", api.ErrForm}, {"", "x", api.ErrForm}, {"x", "x", api.ErrForm}, {"x", "y", api.ErrForm},
		{a[1:], a, api.ErrForm}, {a, a + "=", api.ErrForm}, {a + a, b, api.ErrForm},
	} {
		wantGood(t, change("main", test.old, test.id), test.want)
		wantGood(t, withSigners(change("main", test.old, test.id), 0, 1), test.want)
	}
	for n := range 100 {
		want := api.ErrForm
		if n == 0 || n == 32 {
			want = api.OK
		}
		wantGood(t, change("main", strings.Repeat("s", n), a), want)
		wantGood(t, change("main", a, strings.Repeat("s", n)), want)
	}
}

// Each list of up to three numbers about the range, against the words of the promise.
func TestP10_1GoodSigners(t *testing.T) {
	numbers := []int{-1, 0, 1, 6, 7, 8}
	rising := func(signers ...int) api.Errno {
		before := -1
		for _, who := range signers {
			if who > 7 || who <= before {
				return api.ErrRange
			}
			before = who
		}
		return api.OK
	}
	for _, a := range numbers {
		wantGood(t, withSigners(plain(), a), rising(a))
		for _, b := range numbers {
			wantGood(t, withSigners(plain(), a, b), rising(a, b))
			for _, c := range numbers {
				wantGood(t, withSigners(plain(), a, b, c), rising(a, b, c))
			}
		}
	}
}

// Each number of signers and each number of seals.
func TestP10_1GoodCounts(t *testing.T) {
	for signers := range 12 {
		for seals := range 12 {
			s := plain()
			for who := range signers {
				s.Who = append(s.Who, who)
			}
			for i := range seals {
				s.Seals = append(s.Seals, made(strconv.Itoa(i)))
			}
			want := api.OK
			if signers != seals || signers > 8 {
				want = api.ErrFull
			}
			wantGood(t, s, want)
		}
	}
}

// Of two flaws the one that the chapter names first is told; those of one signer go ahead of those of the next one.
func TestP10_1GoodOrder(t *testing.T) {
	for _, first := range headFlaws() {
		if first.want != api.ErrForm {
			continue
		}
		for _, second := range headFlaws() {
			s := withSigners(plain(), 1, 4)
			second.do(&s)
			first.do(&s)
			wantGood(t, s, api.ErrForm)
		}
		wantGood(t, changed(withSigners(plain(), 8, 4), first.do), api.ErrForm)
	}
	for _, s := range []api.Step{
		{Ref: "main", New: made("a"), Who: []int{8}},
		{Ref: "main", New: made("a"), Who: []int{-1, -1}, Seals: []string{"x"}},
		{Ref: "main", New: made("a"), Seals: []string{"x"}},
		{Ref: "main", New: made("a"), Who: []int{8, 7, 6, 5, 4, 3, 2, 1, 0}, Seals: make([]string, 9)},
	} {
		wantGood(t, s, api.ErrFull)
	}
	seal := made("seal")
	for _, test := range []struct {
		signers []int
		seals   []string
		want    api.Errno
	}{
		{[]int{8}, []string{"x"}, api.ErrRange},
		{[]int{-1}, []string{""}, api.ErrRange},
		{[]int{1, 8}, []string{"x", seal}, api.ErrForm},
		{[]int{1, 8}, []string{seal, "x"}, api.ErrRange},
		{[]int{1, 1}, []string{"x", "x"}, api.ErrForm},
		{[]int{1, 1}, []string{seal, "x"}, api.ErrRange},
		{[]int{8, 1}, []string{seal, "x"}, api.ErrRange},
		{[]int{1, 2, 2}, []string{seal, "x", seal}, api.ErrForm},
		{[]int{1, 0, 2}, []string{seal, seal, "x"}, api.ErrRange},
	} {
		wantGood(t, api.Step{Ref: "main", New: made("a"), Who: test.signers, Seals: test.seals}, test.want)
	}
}
