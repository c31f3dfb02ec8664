package pack

import (
	"math/rand"
	"slices"
	"strings"
	"testing"

	"cartulary/api"
)

// wantWrite asks for what P5.1 and P5.2 promise, and tells in which ways the objects are stored and how deep they are.
// That no two objects outside have one id is not known, so nothing may stand upon them: the pack is the same without
// them, and it is read without them.
func wantWrite(t *testing.T, l, out []string) ([3]int, int) {
	t.Helper()
	b, bad := Write(l, out)
	if bad != api.OK {
		t.Fatalf("Write of %d objects with %d outside = %d", len(l), len(out), bad)
	}
	most := 40
	for _, s := range l {
		most += len(s) + 3
	}
	if len(b) > most {
		t.Errorf("Write of %d objects with %d outside has %d bytes, and not at most %d", len(l), len(out), len(b), most)
	}
	wantRead(t, b, out, l)
	more := append([]string{blob("more"), ""}, out...)
	slices.Reverse(more)
	wantRead(t, b, append(more, blob("most")), l)
	wantRead(t, b, nil, l)
	if alone, bad := Write(l, nil); alone != b || bad != api.OK {
		t.Errorf("Write of %d objects is another pack with %d outside", len(l), len(out))
	}
	read, ways, deepest, bad := slowly(b, out)
	if bad != api.OK || !slices.Equal(read, l) || ways[2] != 0 {
		t.Errorf("Write of %d objects with %d outside is not of the format: %v, %d", len(l), len(out), ways, bad)
	}
	return ways, deepest
}

func wantNoWrite(t *testing.T, l, out []string, want api.Errno) {
	t.Helper()
	if b, bad := Write(l, out); b != "" || bad != want {
		t.Errorf("Write(%.200q) with %d outside has %d bytes, %d, want %d", l, len(out), len(b), bad, want)
	}
}

func TestP5_2NoObjects(t *testing.T) {
	want := "P\x00" + digest("P\x00")
	for _, out := range [][]string{nil, {}, {blob("a")}, samples()} {
		for _, l := range [][]string{nil, {}} {
			if b, bad := Write(l, out); b != want || len(b) != 34 || bad != api.OK {
				t.Errorf("Write of no objects = %q, %d", b, bad)
			}
		}
	}
}

func TestP5_2OneObject(t *testing.T) {
	for _, s := range samples() {
		wantWrite(t, []string{s}, nil)
		wantWrite(t, []string{s}, []string{s})
		wantWrite(t, []string{s}, samples())
	}
}

func TestP5_2PairsOfObjects(t *testing.T) {
	list := samples()
	for i, first := range list {
		for j, second := range list {
			wantWrite(t, []string{first}, []string{second})
			if i != j {
				wantWrite(t, []string{first, second}, nil)
			}
		}
	}
}

func TestP5_2ManyObjects(t *testing.T) {
	source := rand.New(rand.NewSource(53))
	all := append(samples(), versions(40)...)
	for range 100 {
		source.Shuffle(len(all), func(i, j int) { all[i], all[j] = all[j], all[i] })
		many, outside := source.Intn(len(all)+1), source.Intn(len(all)+1)
		wantWrite(t, all[:many], all[len(all)-outside:])
	}
}

// Noise takes all the bytes that the bound allows, but for a few at the beginning of the pack.
func TestP5_2BoundOfNoise(t *testing.T) {
	source := rand.New(rand.NewSource(54))
	for _, size := range []int{8, 127, 128, 200, api.MaxObject} {
		var l, out []string
		for range api.MaxPack {
			l = append(l, sized(source, size))
			out = append(out, sized(source, size))
		}
		wantWrite(t, l, nil)
		wantWrite(t, l, out)
	}
}

// What is alike by a little more than nothing must not take more bytes by a delta than it takes whole.
func TestP5_2BoundOfShortLikeness(t *testing.T) {
	source := rand.New(rand.NewSource(55))
	for common := 8; common <= 90; common += 2 {
		piece := noise(source, common)
		for _, size := range []int{0, 1, 30, 60, 110, 127, 128, 1000} {
			var l, out []string
			for range 20 {
				l = append(l, blob(noise(source, size)+piece+noise(source, 9)))
				out = append(out, blob(piece+noise(source, size+9)))
			}
			wantWrite(t, l, nil)
			wantWrite(t, l, out)
			wantWrite(t, l[:1], out)
		}
	}
}

// A delta of more than MaxText bytes is no string, though it may be shorter than its object.
func TestP5_2LongDeltas(t *testing.T) {
	source := rand.New(rand.NewSource(56))
	whos := noise(source, api.MaxText)
	for kept := api.MaxText - 30; kept <= api.MaxText; kept++ {
		for _, size := range []int{2000, 4000, 4040, 4050} {
			base := tag("t", whos, noise(source, size))
			l := []string{tag("t", whos[:kept], noise(source, size))}
			wantWrite(t, l, []string{base})
			wantWrite(t, append([]string{base}, l...), nil)
		}
	}
	for fresh := 4000; fresh <= api.MaxText; fresh += 3 {
		base := tag("t", whos, "a")
		wantWrite(t, []string{base, tag("t", whos[:4000], noise(source, fresh))}, nil)
	}
}

func TestP5_2LongChains(t *testing.T) {
	for _, many := range []int{2, 8, 9, 10, 11, 30, api.MaxPack} {
		list := versions(many + 1)
		for _, out := range [][]string{nil, list[:1]} {
			ways, deepest := wantWrite(t, list[1:], out)
			t.Logf("%d versions with %d outside: %v, %d deep", many, len(out), ways, deepest)
			if many >= 30 && deepest != api.MaxDepth {
				t.Errorf("%d versions with %d outside: they no longer reach the deepest chain, but %d", many, len(out), deepest)
			}
		}
		slices.Reverse(list)
		wantWrite(t, list[1:], nil)
	}
}

// That deltas are used isn't promised; but the tests of P5.2 say little about them if they are not.
func TestP5_2DeltasAreReached(t *testing.T) {
	list := versions(20)
	ways, _ := wantWrite(t, append(list[10:], blob("other")), list[:10])
	if ways[0] < 2 || ways[1] < 5 {
		t.Errorf("objects stored in the three ways: %v", ways)
	}
}

// Objects outside that are as like as can be, in every order and at every place among others: whichever of them were
// taken for another one when the pack is read, it is read alike.
func TestP5_2NothingStandsUponOutside(t *testing.T) {
	source := rand.New(rand.NewSource(71))
	list := versions(12)
	for like := range list {
		l := append(slices.Clone(list[:like]), list[like+1:]...)
		for _, out := range [][]string{{list[like]}, {list[like], blob("other")}, {blob("other"), list[like]}, list} {
			wantWrite(t, l, out)
			wantWrite(t, l[:1], out)
			b, bad := Write(l, out)
			if bad != api.OK {
				t.Fatal(bad)
			}
			others := slices.Clone(out)
			for i, s := range others {
				others[i] = blob(noise(source, len(s)))
			}
			wantRead(t, b, others, l)
			wantRead(t, b, append(others, out...), l)
			wantRead(t, b, append(slices.Clone(out), others...), l)
		}
	}
}

func TestP5_2StrangeOutside(t *testing.T) {
	source := rand.New(rand.NewSource(57))
	list := versions(3)
	long := list[0] + noise(source, api.MaxObject)
	for _, out := range [][]string{
		{""}, {"", ""}, {"x"}, {long}, {long + long}, {list[0][1:]}, {list[0] + "x"}, {list[0][:len(list[0])-1]},
		{list[0], list[0], list[0]}, list, {"", long, list[0], list[0][1:], list[1], "x", list[0]},
	} {
		wantWrite(t, list, out)
		wantWrite(t, list[1:], out)
	}
}

func TestP5_2TooMany(t *testing.T) {
	list := versions(api.MaxPack + 1)
	wantWrite(t, list[:api.MaxPack], list[:api.MaxClosure])
	wantNoWrite(t, list, nil, api.ErrFull)
	wantNoWrite(t, list, list, api.ErrFull)
	wantNoWrite(t, nil, list[:api.MaxClosure+1], api.ErrFull)
	wantNoWrite(t, list[:2], list[:api.MaxClosure+1], api.ErrFull)
	same := slices.Repeat([]string{blob("a")}, api.MaxClosure+1)
	wantNoWrite(t, nil, same, api.ErrFull)
	wantNoWrite(t, nil, make([]string, api.MaxClosure+1), api.ErrFull)
	wantWrite(t, nil, same[1:])
	// Ahead of what is wrong with the objects.
	wantNoWrite(t, same, nil, api.ErrFull)
	wantNoWrite(t, make([]string, api.MaxPack+1), nil, api.ErrFull)
	wantNoWrite(t, make([]string, 100_000), nil, api.ErrFull)
	wantNoWrite(t, []string{"x"}, same, api.ErrFull)
	wantNoWrite(t, []string{blob("a"), blob("a")}, same, api.ErrFull)
}

// wrongObjects are not objects, each for another reason.
func wrongObjects() map[string]api.Errno {
	return map[string]api.Errno{
		"":                              api.ErrForm,
		"\x80":                          api.ErrForm,
		"x":                             api.ErrKind,
		"\x00\x00":                      api.ErrKind,
		blob("a") + "x":                 api.ErrForm,
		blob("abc")[:4]:                 api.ErrForm,
		blob(strings.Repeat("a", 4097)): api.ErrForm,
		blob(strings.Repeat("a", 9000)): api.ErrLong,
		tag("t", "\x00", ""):            api.ErrForm,
		commit("t", "", 1<<40, ""):      api.ErrRange,
		tree("b", "a"):                  api.ErrForm,
		tree(make([]string, 65)...):     api.ErrFull,
		sized(rand.New(rand.NewSource(58)), api.MaxObject) + "x":                   api.ErrLong,
		"\x03" + digest("t") + "\x02" + digest("p") + digest("p") + "\x00\x00\x00": api.ErrTwice,
	}
}

func TestP5_2WrongObjects(t *testing.T) {
	good := samples()
	for s, want := range wrongObjects() {
		for _, out := range [][]string{nil, {s}, {good[0]}, good} {
			wantNoWrite(t, []string{s}, out, want)
			wantNoWrite(t, []string{s, good[0]}, out, want)
			wantNoWrite(t, []string{good[0], s}, out, want)
			// An error of Decode goes ahead of there being an equal one.
			wantNoWrite(t, []string{good[0], s, s}, out, want)
			wantNoWrite(t, append(slices.Clone(good), s), out, want)
			// In the order of the objects.
			wantNoWrite(t, []string{good[0], s, good[0]}, out, want)
			wantNoWrite(t, []string{good[0], good[0], s}, out, api.ErrTwice)
			for other := range wrongObjects() {
				wantNoWrite(t, []string{s, other}, out, want)
			}
		}
	}
}

func TestP5_2Twice(t *testing.T) {
	for i, s := range samples() {
		wantNoWrite(t, []string{s, s}, nil, api.ErrTwice)
		wantNoWrite(t, []string{s, s}, []string{s}, api.ErrTwice)
		wantNoWrite(t, append(samples(), s), nil, api.ErrTwice)
		wantNoWrite(t, append([]string{s}, samples()...), samples()[i:], api.ErrTwice)
	}
	list := versions(api.MaxPack - 1)
	wantNoWrite(t, append(list, list[0]), nil, api.ErrTwice)
	wantNoWrite(t, append(list, list[len(list)-1]), nil, api.ErrTwice)
}

func TestP5_2ArgumentsStay(t *testing.T) {
	l, out := versions(30), samples()
	full := func(list []string) []string { return append(slices.Clone(list), "spare", "spare") }
	lFull, outFull := full(l), full(out)
	b, bad := Write(lFull[:len(l)], outFull[:len(out)])
	again, badAgain := Write(slices.Clip(slices.Clone(l)), out)
	if b != again || bad != api.OK || badAgain != api.OK {
		t.Errorf("two packs of the same: %d and %d bytes, %d and %d", len(b), len(again), bad, badAgain)
	}
	if got, bad := Read(b, outFull[:len(out)]); bad != api.OK || !slices.Equal(got, l) {
		t.Errorf("Read = %d", bad)
	}
	if !slices.Equal(lFull, full(l)) || !slices.Equal(outFull, full(out)) {
		t.Error("a list was changed")
	}
}

func FuzzP5_2Write(f *testing.F) {
	f.Add("the quick brown fox", "the quick brown fox jumps", "the quick brown fox jumps over")
	f.Add("", "a", "b")
	f.Fuzz(func(t *testing.T, first, second, other string) {
		if max(len(first), len(second), len(other)) <= api.MaxText && first != second {
			wantWrite(t, []string{blob(first), blob(second)}, []string{blob(other)})
		}
	})
}

func BenchmarkWrite(b *testing.B) {
	source := rand.New(rand.NewSource(59))
	var l []string
	for range api.MaxPack / 2 {
		base := sized(source, api.MaxObject)
		l = append(l, base, base[:len(base)-100]+noise(source, 100))
	}
	for range b.N {
		if _, bad := Write(l, l); bad != api.OK {
			b.Fatal(bad)
		}
	}
}
