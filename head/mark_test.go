package head

import (
	"math"
	"math/rand"
	"slices"
	"strings"
	"testing"

	"cartulary/api"
)

func wantMark(t *testing.T, who int, key string, h api.Head, want api.Mark, wantBad api.Errno) {
	t.Helper()
	if got, bad := Mark(who, key, h); got != want || bad != wantBad {
		t.Errorf("Mark(%d, %.100q, %s) = %s, %d, want %s, %d", who, key, describe(h), describeMark(got), bad, describeMark(want), wantBad)
	}
}

// wantCheck also asks that neither the marks, the keys nor the room behind them are touched.
func wantCheck(t *testing.T, k api.Keys, s api.Sealed, want api.Errno) {
	t.Helper()
	marks, witnesses := slices.Clone(s.Marks), slices.Clone(k.Witnesses)
	roomyKeys, roomy := k, s
	roomy.Marks = append(slices.Clone(s.Marks), api.Mark{Who: 3, Seal: "spare"})[:len(s.Marks)]
	roomyKeys.Witnesses = append(slices.Clone(k.Witnesses), "spare")[:len(k.Witnesses)]
	if got := Check(roomyKeys, roomy); got != want {
		t.Errorf("Check of %s with %s by %d keys = %d, want %d", describe(s.Head), describeMarks(s.Marks), len(k.Witnesses), got, want)
	}
	if !slices.Equal(roomy.Marks[:len(marks)+1], append(marks, api.Mark{Who: 3, Seal: "spare"})) || !slices.Equal(roomyKeys.Witnesses[:len(witnesses)+1], append(witnesses, "spare")) {
		t.Errorf("Check of %s with %s touches its arguments", describe(s.Head), describeMarks(s.Marks))
	}
}

// outsiders are numbers of no witness.
func outsiders() []int {
	return []int{-1, -2, -1 << 32, math.MinInt, api.Witnesses, api.Witnesses + 1, 255, 256, 1 << 32, math.MaxInt}
}

// head is one to be marked.
func head() api.Head {
	return headOf(logOf(5))
}

func TestP11_4Mark(t *testing.T) {
	root := digest("root")
	wantMark(t, 2, "key", api.Head{Size: 128, Root: root}, api.Mark{Who: 2, Seal: sealOf("key", "head\x80\x01"+root)}, api.OK)
	for _, h := range rightHeads() {
		for who := range api.Witnesses {
			wantMark(t, who, keyOf(who), h, markOf(who, keyOf(who), h), api.OK)
		}
	}
	if m, _ := Mark(0, "key", Empty()); len(m.Seal) != 32 {
		t.Errorf("a seal has %d bytes", len(m.Seal))
	}
}

// Mark asks no key whether it is the right one.
func TestP11_4MarkWithAnyKey(t *testing.T) {
	for _, key := range []string{"", "k", "\x00", "head", strings.Repeat("k", 64), strings.Repeat("k", 65), strings.Repeat("k", 1<<20)} {
		for who := range api.Witnesses {
			wantMark(t, who, key, head(), markOf(who, key, head()), api.OK)
		}
	}
}

// Which witness has made it is told beside the seal, not by it.
func TestP11_4MarkOfTwoWitnesses(t *testing.T) {
	first, _ := Mark(0, "key", head())
	for who := 1; who < api.Witnesses; who++ {
		wantMark(t, who, "key", head(), api.Mark{Who: who, Seal: first.Seal}, api.OK)
	}
}

func TestP11_4MarkErrors(t *testing.T) {
	for _, e := range wrongHeads() {
		for who := range api.Witnesses {
			wantMark(t, who, "key", e.head, api.Mark{}, e.want)
		}
		for _, who := range outsiders() {
			wantMark(t, who, "key", e.head, api.Mark{}, e.want)
		}
	}
	for _, who := range outsiders() {
		for _, h := range []api.Head{Empty(), head(), {Size: api.MaxLog, Root: digest("root")}} {
			wantMark(t, who, "key", h, api.Mark{}, api.ErrRange)
		}
	}
}

// witnessesIn are those whose bit is set.
func witnessesIn(set int) []int {
	var l []int
	for who := range api.Witnesses {
		if set>>who&1 == 1 {
			l = append(l, who)
		}
	}
	return l
}

// Each set of witnesses against each number of keys.
func TestP11_5Check(t *testing.T) {
	for set := range 1 << api.Witnesses {
		witnesses := witnessesIn(set)
		for many := range api.Witnesses + 3 {
			want := api.OK
			switch {
			case len(witnesses) > 0 && slices.Max(witnesses) >= many:
				want = api.ErrRange
			case len(witnesses) < 3:
				want = api.ErrSeal
			}
			for _, h := range []api.Head{Empty(), head(), headOf(logOf(api.MaxLog)), {Size: 0, Root: digest("root")}} {
				wantCheck(t, keysOf(many), markedBy(h, witnesses...), want)
			}
		}
	}
}

func TestP11_5CheckOfMarksThatAreMade(t *testing.T) {
	for _, h := range rightHeads() {
		s := api.Sealed{Head: h}
		for who := 1; who < api.Witnesses; who++ {
			wantCheck(t, keysOf(api.Witnesses), s, api.ErrSeal)
			m, bad := Mark(who, keyOf(who), h)
			if bad != api.OK {
				t.Fatalf("Mark(%d, %s): %d", who, describe(h), bad)
			}
			s.Marks = append(s.Marks, m)
		}
		wantCheck(t, keysOf(api.Witnesses), s, api.OK)
	}
}

func TestP11_5CheckOfWrongHeads(t *testing.T) {
	for _, e := range wrongHeads() {
		wantCheck(t, keysOf(4), markedBy(e.head, 0, 1, 2), e.want)
		wantCheck(t, keysOf(4), markedBy(e.head, 0, 1, 2, 3), e.want)
		wantCheck(t, keysOf(4), markedBy(e.head), e.want)
		wantCheck(t, keysOf(0), markedBy(e.head, 9, 0), e.want)
		wantCheck(t, keysOf(4), api.Sealed{Head: e.head, Marks: markedBy(head(), 0, 1, 2).Marks}, e.want)
	}
}

// There is no fifth witness, whatever keys there are.
func TestP11_5CheckOfOutsiders(t *testing.T) {
	for _, who := range outsiders() {
		outsider := markOf(who, keyOf(4), head())
		for at := range 4 {
			s := markedBy(head(), 0, 1, 2)
			s.Marks = slices.Insert(s.Marks, at, outsider)
			for _, many := range []int{3, 4, 5, 6, 300} {
				wantCheck(t, keysOf(many), s, api.ErrRange)
			}
		}
		wantCheck(t, keysOf(5), api.Sealed{Head: head(), Marks: []api.Mark{outsider}}, api.ErrRange)
	}
}

func TestP11_5CheckOfOtherOrders(t *testing.T) {
	for _, witnesses := range [][]int{
		{0, 0}, {3, 3}, {1, 0}, {3, 0}, {0, 0, 1}, {0, 1, 1}, {0, 1, 0}, {1, 0, 2}, {2, 1, 0}, {1, 2, 0}, {0, 2, 1},
		{0, 1, 2, 2}, {0, 1, 2, 0}, {0, 1, 3, 2}, {1, 2, 3, 0}, {3, 2, 1, 0}, {0, 1, 2, 3, 3}, {0, 1, 2, 3, 0}, {0, 1, 2, 3, 2},
	} {
		wantCheck(t, keysOf(4), markedBy(head(), witnesses...), api.ErrRange)
	}
	wantCheck(t, keysOf(4), markedBy(head(), slices.Repeat([]int{1}, 10000)...), api.ErrRange)
}

// wrongSeals are those that are not of this witness and this head.
func wrongSeals(who int, h api.Head) []string {
	right := markOf(who, keyOf(who), h).Seal
	flipped := []byte(right)
	flipped[31] ^= 1
	body, key := textOf(h), keyOf(who)
	return []string{
		"", "x", right[1:], right[:31], right + "\x00", "\x00" + right, right + right, string(flipped),
		strings.Repeat("\x00", 32), digest("head" + body), digest(key + "head" + body),
		sealOf(key, body), sealOf(key, "Head"+body), sealOf(key, "head"), sealOf(key, "head"+h.Root), sealOf(key, "head"+text(body)), sealOf(key, text("head")+body), sealOf(key, body+"head"), sealOf(key, "\x00"+body),
		sealOf(key, "head"+textOf(api.Head{Size: h.Size + 1, Root: h.Root})), sealOf(key, "head"+textOf(api.Head{Size: h.Size, Root: digest("other")})),
		sealOf(keyOf(who^1), "head"+body), sealOf("", "head"+body), sealOf("head"+body, key), sealOf(key+"x", "head"+body),
	}
}

func TestP11_5CheckOfWrongSeals(t *testing.T) {
	for _, h := range []api.Head{Empty(), head(), headOf(logOf(150))} {
		for _, witnesses := range [][]int{{0}, {2, 3}, {0, 1, 2}, {0, 1, 3}, {1, 2, 3}, {0, 1, 2, 3}} {
			for at, who := range witnesses {
				for _, seal := range wrongSeals(who, h) {
					s := markedBy(h, witnesses...)
					s.Marks[at].Seal = seal
					wantCheck(t, keysOf(4), s, api.ErrSeal)
				}
			}
		}
	}
}

// The same seals say nothing of another head, nor by other keys.
func TestP11_5CheckOfOtherHeads(t *testing.T) {
	s := markedBy(head(), 0, 1, 2, 3)
	for _, h := range rightHeads() {
		if h != head() {
			wantCheck(t, keysOf(4), api.Sealed{Head: h, Marks: s.Marks}, api.ErrSeal)
		}
	}
	for who := range api.Witnesses {
		k := keysOf(4)
		k.Witnesses[who] += "x"
		wantCheck(t, k, s, api.ErrSeal)
		k.Witnesses[who] = keyOf(who ^ 1)
		wantCheck(t, k, s, api.ErrSeal)
	}
}

// How many signers there are, and how many of them are needed, is none of the concern of the witnesses.
func TestP11_5CheckAsksNoSigners(t *testing.T) {
	for _, need := range []int{math.MinInt, -1, 0, 3, 4, 5, math.MaxInt} {
		for _, signers := range [][]string{nil, {"a"}, keysOf(4).Witnesses, make([]string, 20)} {
			k := api.Keys{Signers: signers, Witnesses: keysOf(4).Witnesses, Need: need}
			wantCheck(t, k, markedBy(head(), 0, 1, 3), api.OK)
			wantCheck(t, k, markedBy(head(), 1, 3), api.ErrSeal)
		}
	}
	wantCheck(t, api.Keys{Signers: keysOf(4).Witnesses}, markedBy(head(), 0, 1, 3), api.ErrRange)
}

// Two witnesses with one key are two witnesses.
func TestP11_5CheckWithOneKey(t *testing.T) {
	k := api.Keys{Witnesses: []string{"k", "k", "k", "k"}}
	m := markOf(0, "k", head())
	s := api.Sealed{Head: head(), Marks: []api.Mark{{Who: 0, Seal: m.Seal}, {Who: 1, Seal: m.Seal}, {Who: 3, Seal: m.Seal}}}
	wantCheck(t, k, s, api.OK)
	s.Marks[2].Who = 1
	wantCheck(t, k, s, api.ErrRange)
}

// slowCheck names what is wrong with each mark, and then answers the first of it.
func slowCheck(many int, s api.Sealed) api.Errno {
	var wrongs []api.Errno
	previous := -1
	for _, m := range s.Marks {
		switch {
		case !slices.Contains([]int{0, 1, 2, 3}[:min(many, 4)], m.Who), m.Who <= previous:
			wrongs = append(wrongs, api.ErrRange)
		case m.Seal != sealOf(keyOf(m.Who), "head"+textOf(s.Head)):
			wrongs = append(wrongs, api.ErrSeal)
		}
		previous = m.Who
	}
	if len(s.Marks) < 3 {
		wrongs = append(wrongs, api.ErrSeal)
	}
	return append(wrongs, api.OK)[0]
}

// All lists of a few marks, right ones and wrong ones: of several errors the first mark's counts, and of one mark's the number's.
func TestP11_5CheckOfAllLists(t *testing.T) {
	h := head()
	var choices []api.Mark
	for who := -1; who <= api.Witnesses; who++ {
		choices = append(choices, markOf(who, keyOf(max(who, 0)), h), api.Mark{Who: who, Seal: digest("wrong")})
	}
	var extend func(marks []api.Mark)
	extend = func(marks []api.Mark) {
		s := api.Sealed{Head: h, Marks: marks}
		for many := range api.Witnesses + 2 {
			wantCheck(t, keysOf(many), s, slowCheck(many, s))
		}
		if len(marks) == api.Witnesses {
			return
		}
		for _, m := range choices {
			extend(append(slices.Clone(marks), m))
		}
	}
	extend(nil)
}

func TestP11_5CheckByChance(t *testing.T) {
	random := rand.New(rand.NewSource(115))
	seen := map[api.Errno]int{}
	for range 5000 {
		h := headOf(logOf(random.Intn(4)))
		s := markedBy(h, witnessesIn(random.Intn(1<<api.Witnesses)|1<<random.Intn(api.Witnesses))...)
		for range random.Intn(3) {
			switch at := random.Intn(len(s.Marks)); random.Intn(5) {
			case 0:
				s.Marks[at].Who = random.Intn(6) - 1
			case 1:
				s.Marks[at] = markOf(s.Marks[at].Who, keyOf(random.Intn(4)), h)
			case 2:
				s.Marks = slices.Insert(s.Marks, at, markedBy(h, random.Intn(5)).Marks[0])
			case 3:
				s.Marks[at].Seal = s.Marks[random.Intn(len(s.Marks))].Seal
			case 4:
				other := random.Intn(len(s.Marks))
				s.Marks[at], s.Marks[other] = s.Marks[other], s.Marks[at]
			}
		}
		many := 3 + random.Intn(3)
		want := slowCheck(many, s)
		wantCheck(t, keysOf(many), s, want)
		seen[want]++
	}
	for _, bad := range []api.Errno{api.OK, api.ErrRange, api.ErrSeal} {
		if seen[bad] < 500 {
			t.Errorf("error %d was seen %d times", bad, seen[bad])
		}
	}
}
