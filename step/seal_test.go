package step

import (
	"math"
	"math/rand"
	"slices"
	"strings"
	"testing"

	"cartulary/api"
)

// wantSign also asks that neither the step's lists nor the room behind them is touched, and that the result has its own memory.
func wantSign(t *testing.T, s api.Step, at, who int, key string, want api.Step, wantBad api.Errno) {
	t.Helper()
	roomy := s
	roomy.Who = append(slices.Clone(s.Who), 71, 72)[:len(s.Who)]
	roomy.Seals = append(slices.Clone(s.Seals), "spare", "room")[:len(s.Seals)]
	got, bad := Sign(roomy, at, who, key)
	if !sameStep(got, want) || bad != wantBad {
		t.Errorf("Sign of %s at %d by %d = %s, %d, want %s, %d", describe(s), at, who, describe(got), bad, describe(want), wantBad)
	}
	clear(got.Who)
	clear(got.Seals)
	_, _ = append(got.Who, 73), append(got.Seals, "other")
	room, seals := roomy.Who[:len(s.Who)+2], roomy.Seals[:len(s.Seals)+2]
	if !slices.Equal(room, append(slices.Clone(s.Who), 71, 72)) || !slices.Equal(seals, append(slices.Clone(s.Seals), "spare", "room")) {
		t.Errorf("Sign of %s at %d by %d touches its argument: %v, %.400q", describe(s), at, who, room, seals)
	}
}

func wantNoSign(t *testing.T, s api.Step, at, who int, want api.Errno) {
	t.Helper()
	wantSign(t, s, at, who, "key", api.Step{}, want)
}

func wantCheck(t *testing.T, k api.Keys, at int, s api.Step, want api.Errno) {
	t.Helper()
	if got := Check(k, at, s); got != want {
		t.Errorf("Check of %s at %d with %d signers, %d needed = %d, want %d", describe(s), at, len(k.Signers), k.Need, got, want)
	}
}

// From each set of signers, each one more.
func TestP10_4Sign(t *testing.T) {
	for set := range uint(1 << api.MaxKeys) {
		at := int(set) % api.MaxLog
		before := sealedBy(plain(), at, signersIn(set)...)
		for who := range api.MaxKeys {
			if set&(1<<who) != 0 {
				wantNoSign(t, before, at, who, api.ErrTwice)
				continue
			}
			wantSign(t, before, at, who, keyOf(who), sealedBy(plain(), at, signersIn(set|1<<who)...), api.OK)
		}
	}
}

// In whatever order all sign, the step is the same.
func TestP10_4SignInEachOrder(t *testing.T) {
	random := rand.New(rand.NewSource(104))
	for range 300 {
		at := random.Intn(api.MaxLog)
		order := random.Perm(api.MaxKeys)[:1+random.Intn(api.MaxKeys)]
		s := change("main", "", made("new"))
		for _, who := range order {
			signed, bad := Sign(s, at, who, keyOf(who))
			if bad != api.OK {
				t.Fatalf("Sign by %d of %v: %d", who, order, bad)
			}
			s = signed
		}
		slices.Sort(order)
		if want := sealedBy(s, at, order...); !sameStep(s, want) {
			t.Errorf("signed by %v: %s", order, describe(s))
		}
	}
}

// Sign asks no key whether it is the right one, nor the other seals.
func TestP10_4SignWithAnyKey(t *testing.T) {
	for _, key := range []string{"", "k", "\x00", strings.Repeat("k", 64), strings.Repeat("k", 65), strings.Repeat("k", 1<<20)} {
		for _, s := range rightSteps() {
			if len(s.Who) > 0 {
				continue
			}
			want := s
			want.Who, want.Seals = []int{3}, []string{sealOf(key, bodyOf(9, s))}
			wantSign(t, s, 9, 3, key, want, api.OK)
		}
	}
	wrong := withSigners(plain(), 1, 6)
	want := withSigners(plain(), 1, 3, 6)
	want.Seals[1] = sealOf("key", bodyOf(9, wrong))
	wantSign(t, wrong, 9, 3, "key", want, api.OK)
}

func TestP10_4SignErrors(t *testing.T) {
	outside := []int{-1, -2, math.MinInt, api.MaxKeys, api.MaxKeys + 1, 256, 1 << 32, math.MaxInt}
	for _, e := range wrongSteps() {
		for _, at := range []int{0, -1, api.MaxLog} {
			for _, who := range []int{0, 1, -1, api.MaxKeys} {
				wantNoSign(t, e.step, at, who, e.want)
			}
		}
	}
	for _, s := range rightSteps() {
		for _, at := range []int{-1, math.MinInt, api.MaxLog, math.MaxInt} {
			for who := range api.MaxKeys {
				wantNoSign(t, s, at, who, api.ErrRange)
			}
		}
		for _, who := range outside {
			for _, at := range []int{0, 1, api.MaxLog - 1} {
				wantNoSign(t, s, at, who, api.ErrRange)
			}
		}
		for _, who := range s.Who {
			wantNoSign(t, s, 0, who, api.ErrTwice)
			wantNoSign(t, s, api.MaxLog-1, who, api.ErrTwice)
			wantNoSign(t, s, api.MaxLog, who, api.ErrRange)
		}
	}
}

// Each set of signers against each number of keys and each number of seals that are needed.
func TestP10_5Check(t *testing.T) {
	for set := range uint(1 << api.MaxKeys) {
		at, signers := int(set)%api.MaxLog, signersIn(set)
		s := sealedBy(plain(), at, signers...)
		for many := range api.MaxKeys + 2 {
			for _, need := range []int{math.MinInt, -1, 0, 1, 2, len(signers) - 1, len(signers), len(signers) + 1, math.MaxInt} {
				want := api.OK
				if need > len(signers) || len(signers) > 0 && slices.Max(signers) >= many {
					want = api.ErrSeal
				}
				wantCheck(t, keysOf(many, need), at, s, want)
			}
		}
	}
}

func TestP10_5CheckAtOtherPlaces(t *testing.T) {
	for _, at := range []int{0, 1, 100, 127, 128, api.MaxLog - 1} {
		s := sealedBy(plain(), at, 0, 2)
		for other := range api.MaxLog {
			want := api.ErrSeal
			if other == at {
				want = api.OK
			}
			wantCheck(t, keysOf(3, 2), other, s, want)
			wantCheck(t, keysOf(3, 2), other, plain(), api.ErrSeal)
			wantCheck(t, keysOf(3, 0), other, plain(), api.OK)
		}
	}
}

// A seal is for one change of one ref only.
func TestP10_5CheckOfOtherSteps(t *testing.T) {
	s := sealedBy(plain(), 4, 0, 1, 2)
	wantCheck(t, keysOf(3, 2), 4, s, api.OK)
	for _, do := range []func(s *api.Step){
		func(s *api.Step) { s.Ref = "mainn" },
		func(s *api.Step) { s.Ref = "main/a" },
		func(s *api.Step) { s.Old = "" },
		func(s *api.Step) { s.Old = made("other") },
		func(s *api.Step) { s.New = "" },
		func(s *api.Step) { s.New = made("other") },
		func(s *api.Step) { s.Old, s.New = s.New, s.Old },
		func(s *api.Step) { s.Who[2] = 7 },
		func(s *api.Step) { s.Who = []int{0, 2, 3} },
		func(s *api.Step) { s.Who[0], s.Who, s.Seals = 1, s.Who[:1], s.Seals[:1] },
		func(s *api.Step) { s.Seals[0], s.Seals[1] = s.Seals[1], s.Seals[0] },
		func(s *api.Step) { s.Seals[1], s.Seals[2] = s.Seals[2], s.Seals[1] },
	} {
		wantCheck(t, keysOf(8, 0), 4, changed(s, do), api.ErrSeal)
	}
}

// Each seal must be right in each bit, also those beyond the ones that are needed.
func TestP10_5CheckOfEachBit(t *testing.T) {
	s := sealedBy(plain(), 4, 1, 3, 4)
	for i := range s.Seals {
		for bit := range 256 {
			wrong := changed(s, func(s *api.Step) {
				b := []byte(s.Seals[i])
				b[bit/8] ^= 1 << (bit % 8)
				s.Seals[i] = string(b)
			})
			wantCheck(t, keysOf(5, 1), 4, wrong, api.ErrSeal)
			wantCheck(t, keysOf(5, 0), 4, wrong, api.ErrSeal)
		}
	}
}

func TestP10_5CheckWithOtherKeys(t *testing.T) {
	s := sealedBy(plain(), 4, 0, 2)
	for who := range 3 {
		k := keysOf(3, 2)
		k.Signers[who] += "x"
		want := api.ErrSeal
		if who == 1 {
			want = api.OK
		}
		wantCheck(t, k, 4, s, want)
	}
	// The keys of witnesses are no signers'.
	wantCheck(t, api.Keys{Witnesses: keysOf(3, 2).Signers, Need: 2}, 4, s, api.ErrSeal)
	wantCheck(t, api.Keys{}, 4, s, api.ErrSeal)
	wantCheck(t, api.Keys{}, 4, plain(), api.OK)
	// Two signers may have one key, and a key may be empty.
	k := api.Keys{Signers: []string{"same", "", "same"}, Need: 3}
	twice := plain()
	for who, key := range k.Signers {
		twice, _ = Sign(twice, 4, who, key)
	}
	wantCheck(t, k, 4, twice, api.OK)
}

// A list of more keys than there may be signers does no harm.
func TestP10_5CheckWithManyKeys(t *testing.T) {
	wantCheck(t, keysOf(100, 2), 4, sealedBy(plain(), 4, 0, 7), api.OK)
	wantCheck(t, keysOf(100, 2), 4, sealedBy(plain(), 4, 0, 8), api.ErrRange)
}

func TestP10_5CheckOrder(t *testing.T) {
	for _, e := range wrongSteps() {
		for _, at := range []int{0, -1, api.MaxLog} {
			wantCheck(t, keysOf(8, 2), at, e.step, e.want)
			wantCheck(t, keysOf(0, 0), at, e.step, e.want)
		}
	}
	for _, at := range []int{-1, math.MinInt, api.MaxLog, math.MaxInt} {
		wantCheck(t, keysOf(3, 0), at, plain(), api.ErrRange)
		wantCheck(t, keysOf(3, 2), at, withSigners(plain(), 0, 7), api.ErrRange)
	}
}
