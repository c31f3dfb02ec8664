package pack

import (
	"maps"
	"math/rand"
	"slices"
	"strings"
	"testing"

	"cartulary/api"
	"cartulary/delta"
	"cartulary/wire"
)

// tooGreat is 2^62, which is no number of package wire.
var tooGreat = strings.Repeat("\x80", 8) + "\x40"

func TestP5_1Formats(t *testing.T) {
	a, b, c := blob("abc"), blob("abcd"), blob("abcde")
	other := tag("t", "me", "v1")
	big := sized(rand.New(rand.NewSource(60)), api.MaxObject)
	for _, test := range []struct {
		pack      string
		out, want []string
	}{
		{"P\x00" + digest("P\x00"), nil, nil},
		{sealed("P\x01\x00\x02\x01\x00"), nil, []string{blob("")}},
		{sealed("P\x01\x00\x05\x01\x03abc"), nil, []string{a}},
		{packOf(asWhole(a), asWhole(b)), nil, []string{a, b}},
		{packOf(asWhole(b), asWhole(a)), nil, []string{b, a}},
		{packOf(asWhole(big)), nil, []string{big}},
		{packOf(asWhole(other), asWhole(tree("a", "b")), asWhole(commit("t", "", 0, ""))), nil,
			[]string{other, tree("a", "b"), commit("t", "", 0, "")}},
		// Upon an earlier one, of which the first has the index 0.
		{sealed("P\x02\x00\x05\x01\x03abc\x01\x00\x09\x05\x06\x04\x01\x04\x07\x02\x02d"), nil, []string{a, b}},
		{packOf(asWhole(a), uponEarlier(0, longer(a, "d"))), nil, []string{a, b}},
		{packOf(asWhole(a), asWhole(b), uponEarlier(0, longer(a, "de"))), nil, []string{a, b, c}},
		{packOf(asWhole(a), asWhole(b), uponEarlier(1, longer(b, "e"))), nil, []string{a, b, c}},
		{packOf(asWhole(a), uponEarlier(0, longer(a, "d")), uponEarlier(1, longer(b, "e"))), nil, []string{a, b, c}},
		{packOf(asWhole(other), uponEarlier(0, spelled(other, a))), nil, []string{other, a}},
		// Upon one outside.
		{sealed("P\x01\x02" + digest(a) + "\x09\x05\x06\x04\x01\x04\x07\x02\x02d"), []string{a}, []string{b}},
		{packOf(uponOutside(digest(a), longer(a, "d"))), []string{other, a, c}, []string{b}},
		{packOf(uponOutside(digest(a), longer(a, "d"))), []string{a, a}, []string{b}},
		{packOf(uponOutside(digest(a), longer(a, "d")), uponEarlier(0, longer(b, "e"))), []string{other, a}, []string{b, c}},
		{packOf(uponOutside(digest(a), longer(a, "d")), uponOutside(digest(a), longer(a, "de"))), []string{a}, []string{b, c}},
		{packOf(uponOutside(digest(other), spelled(other, a)), uponOutside(digest(a), longer(a, "d"))), []string{a, other}, []string{a, b}},
		// What is outside may be in the pack as well.
		{packOf(asWhole(a), uponOutside(digest(a), longer(a, "d"))), []string{a}, []string{a, b}},
		{packOf(uponOutside(digest(a), spelled(a, a))), []string{a}, []string{a}},
		{packOf(asWhole(a)), []string{a, "", "x"}, []string{a}},
	} {
		wantRead(t, test.pack, test.out, test.want)
	}
}

func TestP5_3AsManyAsMayBe(t *testing.T) {
	source := rand.New(rand.NewSource(61))
	var list, representations []string
	for range api.MaxPack + 1 {
		s := blob(noise(source, 20))
		list, representations = append(list, s), append(representations, asWhole(s))
	}
	wantRead(t, packOf(representations[:api.MaxPack]...), nil, list[:api.MaxPack])
	wantNoRead(t, packOf(representations...), nil, api.ErrFull)
	// The index of a base may take two bytes.
	last := api.MaxPack - 2
	representations[last+1] = uponEarlier(last, longer(list[last], "!"))
	wantRead(t, packOf(representations[:api.MaxPack]...), nil, append(list[:last+1:last+1], blob(list[last][2:]+"!")))
	// Objects outside may be more than MaxClosure.
	many := append(slices.Repeat([]string{"x"}, 1000), list...)
	wantRead(t, packOf(uponOutside(digest(list[7]), longer(list[7], "!"))), many, []string{blob(list[7][2:] + "!")})
}

func TestP5_3TooShortOrNoPack(t *testing.T) {
	good := packOf(asWhole(blob("abc")))
	for n := range good[:33] {
		wantNoRead(t, good[:n], nil, api.ErrForm)
		wantNoRead(t, strings.Repeat("P", n), nil, api.ErrForm)
	}
	for first := range 256 {
		if first == 'P' {
			continue
		}
		c := string([]byte{byte(first)})
		// Ahead of the sum, which is right or wrong, and of all behind it.
		wantNoRead(t, sealed(c+"\x00"), nil, api.ErrForm)
		wantNoRead(t, sealed(c+good[1:len(good)-32]), nil, api.ErrForm)
		wantNoRead(t, c+good[1:], nil, api.ErrForm)
		wantNoRead(t, sealed(c), nil, api.ErrForm)
		wantNoRead(t, c+good, nil, api.ErrForm)
	}
}

func TestP5_3WrongSum(t *testing.T) {
	a := blob("abc")
	for _, good := range []string{sealed("P"), packOf(), packOf(asWhole(a)), packOf(uponOutside(digest(a), longer(a, "d")))} {
		for i := 1; i < len(good); i++ {
			for bit := range 8 {
				b := []byte(good)
				b[i] ^= 1 << bit
				wantNoRead(t, string(b), []string{a}, api.ErrSum)
			}
		}
		for n := 33; n < len(good); n++ {
			wantNoRead(t, good[:n], []string{a}, api.ErrSum)
		}
		wantNoRead(t, good+"x", nil, api.ErrSum)
		wantNoRead(t, good+good, nil, api.ErrSum)
	}
	for _, b := range []string{"P" + strings.Repeat("\x00", 32), strings.Repeat("P", 33), "P\x80" + digest("P"), "P" + digest("")} {
		wantNoRead(t, b, nil, api.ErrSum)
	}
}

func TestP5_3UnreadableCount(t *testing.T) {
	a := asWhole(blob("abc"))
	for _, count := range []string{"", "\x80", "\x81\x00", "\x80\x00", "\x91\x83\x00", "\xff\xff", tooGreat} {
		wantNoRead(t, sealed("P"+count), nil, api.ErrForm)
	}
	for _, count := range []string{"\x81\x00", "\x91\x83\x00", tooGreat} {
		wantNoRead(t, sealed("P"+count+a), nil, api.ErrForm)
	}
}

func TestP5_3TooGreatCount(t *testing.T) {
	a := asWhole(blob("abc"))
	for _, many := range []int{api.MaxPack + 1, api.MaxPack + 2, 1 << 20, 1 << 40, 1<<62 - 1} {
		// Ahead of whatever stands behind it.
		for _, rest := range []string{"", a, a + a, "\x03", "\x80", "\x01\x00\x00"} {
			wantNoRead(t, sealed("P"+number(many)+rest), nil, api.ErrFull)
		}
	}
	// A pack that holds less than it says.
	for _, many := range []int{2, 3, api.MaxPack - 1, api.MaxPack} {
		wantNoRead(t, sealed("P"+number(many)), nil, api.ErrForm)
		wantNoRead(t, sealed("P"+number(many)+a), nil, api.ErrForm)
	}
}

// behind puts a representation that is wrong first, behind one that is right, and ahead of one that is wrong otherwise.
func behind(wrong string) []string {
	first := asWhole(blob("first"))
	return []string{
		packOf(wrong), packOf(wrong, "\x03"), packOf(wrong, uponEarlier(99, "")), packOf(wrong, asWhole("x")),
		packOf(first, wrong), packOf(first, wrong, uponOutside(digest("no"), "")), packOf(first, wrong, first),
		sealed("P\x01" + wrong + "further"),
	}
}

func TestP5_3UnreadableRepresentations(t *testing.T) {
	a := blob("abc")
	for _, unreadable := range []string{
		"", "\x80", "\x80\x00", "\x81\x00\x00", tooGreat,
		"\x00", "\x00\x80", "\x00\x06" + a, "\x00" + number(1<<62-1) + a, "\x00" + tooGreat,
		"\x01", "\x01\x80", "\x01\xff\xff", "\x01" + tooGreat,
		"\x02", "\x02" + digest("no")[:31],
	} {
		wantNoRead(t, sealed("P\x01"+unreadable), []string{a}, api.ErrForm)
		wantNoRead(t, sealed("P\x02"+asWhole(a)+unreadable), []string{a}, api.ErrForm)
	}
	for _, unreadable := range []string{
		"\x03", "\x04", "\x7f", "\x80\x01", "\x82\x02", number(1<<62 - 1),
		"\x03" + asWhole(a), "\x03\x00\x00", "\x82\x00" + digest(a) + text(longer(a, "d")),
		"\x00\x85\x00" + a, "\x01\x80\x00" + text(spelled(blob("first"), a)), "\x80\x00" + text(a),
	} {
		for _, b := range behind(unreadable) {
			wantNoRead(t, b, []string{a}, api.ErrForm)
		}
	}
}

func TestP5_3BaseNotEarlier(t *testing.T) {
	a, b := blob("abc"), blob("abcd")
	d := longer(a, "d")
	// Ahead of a delta that cannot be read, and of one that cannot be applied.
	for _, after := range []string{text(d), "", "\x80", "\x05x", number(5000), "\x00", "\x01\x80", tooGreat} {
		for _, index := range []int{0, 1, 2, 400, 1 << 32, 1<<62 - 1} {
			wantNoRead(t, sealed("P\x01\x01"+number(index)+after), []string{a}, api.ErrRange)
			if index > 0 {
				wantNoRead(t, sealed("P\x02"+asWhole(a)+"\x01"+number(index)+after), []string{a}, api.ErrRange)
			}
		}
	}
	// Neither the object itself nor a later one is earlier.
	wantNoRead(t, packOf(uponEarlier(0, spelled(a, a))), nil, api.ErrRange)
	wantNoRead(t, packOf(uponEarlier(1, d), asWhole(a)), nil, api.ErrRange)
	wantNoRead(t, packOf(asWhole(b), uponEarlier(2, d), asWhole(a)), nil, api.ErrRange)
	wantRead(t, packOf(asWhole(a), uponEarlier(0, d)), nil, []string{a, b})
}

func TestP5_3BaseNotOutside(t *testing.T) {
	a, other := blob("abc"), blob("other")
	id := digest(a)
	for _, out := range [][]string{nil, {}, {other}, {"", "x", other}, {id}, {a + "x", a[1:], digest(id)}} {
		// Ahead of a delta that cannot be read, and of one that cannot be applied.
		for _, after := range []string{text(longer(a, "d")), "", "\x80", "\x05x", number(5000), "\x00", "\x01\x80"} {
			wantNoRead(t, sealed("P\x01\x02"+id+after), out, api.ErrBase)
			// An object of the pack is not outside.
			wantNoRead(t, sealed("P\x02"+asWhole(a)+"\x02"+id+after), out, api.ErrBase)
		}
	}
	for i := range id {
		near := []byte(id)
		near[i] ^= 1
		wantNoRead(t, packOf(uponOutside(string(near), longer(a, "d"))), []string{a}, api.ErrBase)
	}
	wantRead(t, packOf(uponOutside(id, longer(a, "d"))), []string{other, a}, []string{blob("abcd")})
}

// The id decides alone, also where what has it is longer than an object or is none.
func TestP5_3BaseOutsideIsNoObject(t *testing.T) {
	a := blob("abc")
	for _, base := range []string{"", "x", a + "x", strings.Repeat("long", 10_000)} {
		wantRead(t, packOf(uponOutside(digest(base), spelled(base, a))), []string{a, base, "y"}, []string{a})
	}
}

// Were two different objects outside to have one id, the first one has it: here the ids are made up.
func TestP5_3FirstOfOneId(t *testing.T) {
	for _, test := range []struct {
		ids  []string
		want map[string]int
	}{
		{nil, map[string]int{}},
		{[]string{"a"}, map[string]int{"a": 0}},
		{[]string{"a", "b"}, map[string]int{"a": 0, "b": 1}},
		{[]string{"a", "a"}, map[string]int{"a": 0}},
		{[]string{"b", "a", "a", "b", "c", "a"}, map[string]int{"b": 0, "a": 1, "c": 4}},
	} {
		if got := firstIndexes(test.ids); !maps.Equal(got, test.want) {
			t.Errorf("firstIndexes(%q) = %v, want %v", test.ids, got, test.want)
		}
	}
	a, b := blob("abc"), blob("xyz")
	u := newUnpacking([]string{a, b})
	u.indexes = firstIndexes([]string{digest(a), digest(a)})
	r := wire.Read(uponOutside(digest(a), longer(a, "d")))
	if s, depth, bad := u.readObject(r); s != blob("abcd") || depth != 1 || bad != api.OK {
		t.Errorf("an object upon the first of one id = %q, %d, %d", s, depth, bad)
	}
}

func TestP5_3UnreadableDeltas(t *testing.T) {
	a := blob("abc")
	long := strings.Repeat("l", 5000)
	for _, unreadable := range []string{
		"", "\x80", "\x81\x00x", "\x05", "\x05abcd", number(1<<62 - 1), tooGreat, number(api.MaxText), number(api.MaxText + 1),
		text(long), text(long[:api.MaxText+1]), number(api.MaxText) + long[:api.MaxText-1],
	} {
		wantNoRead(t, sealed("P\x02"+asWhole(a)+"\x01\x00"+unreadable), nil, api.ErrForm)
		wantNoRead(t, sealed("P\x01\x02"+digest(a)+unreadable), []string{a}, api.ErrForm)
	}
	// A delta may have just MaxText bytes.
	fits, tooLong := blob(strings.Repeat("f", api.MaxText-8)), blob(strings.Repeat("f", api.MaxText-7))
	if d := spelled(a, fits); len(d) != api.MaxText {
		t.Fatalf("a delta of %d bytes", len(d))
	}
	wantRead(t, packOf(asWhole(a), uponEarlier(0, spelled(a, fits))), nil, []string{a, fits})
	wantRead(t, packOf(uponOutside(digest(a), spelled(a, fits))), []string{a}, []string{fits})
	wantNoRead(t, packOf(asWhole(a), uponEarlier(0, spelled(a, tooLong))), nil, api.ErrForm)
	wantNoRead(t, packOf(uponOutside(digest(a), spelled(a, tooLong))), []string{a}, api.ErrForm)
}

// chain is the representations of blobs, each of them a delta upon the one before it, and the blobs.
func chain(start, first string, deltas int) ([]string, []string) {
	representations, objects := []string{start}, []string{first}
	for i := range deltas {
		representations = append(representations, uponEarlier(i, longer(objects[i], "+")))
		objects = append(objects, blob(objects[i][2:]+"+"))
	}
	return representations, objects
}

func TestP5_3DeepChains(t *testing.T) {
	a, b := blob("abc"), blob("abcd")
	for many := range 2 * api.MaxDepth {
		fromWhole, wholeObjects := chain(asWhole(a), a, many)
		fromOutside, outsideObjects := chain(uponOutside(digest(a), longer(a, "d")), b, many)
		if many <= api.MaxDepth {
			wantRead(t, packOf(fromWhole...), nil, wholeObjects)
		} else {
			wantNoRead(t, packOf(fromWhole...), nil, api.ErrDeep)
		}
		// The first one is a delta already.
		if many < api.MaxDepth {
			wantRead(t, packOf(fromOutside...), []string{a}, outsideObjects)
		} else {
			wantNoRead(t, packOf(fromOutside...), []string{a}, api.ErrDeep)
		}
	}
}

func TestP5_3DeepestBase(t *testing.T) {
	a := blob("abc")
	representations, objects := chain(asWhole(a), a, api.MaxDepth)
	last := objects[api.MaxDepth]
	deepest := strings.Join(representations, "")
	read := func(more string) string { return sealed("P" + number(api.MaxDepth+2) + deepest + more) }
	// Behind a delta that cannot be read, and ahead of one that cannot be applied or makes no new object.
	wantNoRead(t, read(uponEarlier(api.MaxDepth, longer(last, "+"))), nil, api.ErrDeep)
	wantNoRead(t, read("\x01"+number(api.MaxDepth)), nil, api.ErrForm)
	wantNoRead(t, read("\x01"+number(api.MaxDepth)+"\x05"), nil, api.ErrForm)
	wantNoRead(t, read("\x01"+number(api.MaxDepth)+text(strings.Repeat("l", api.MaxText+1))), nil, api.ErrForm)
	wantNoRead(t, read("\x01"+number(api.MaxDepth+1)+text("")), nil, api.ErrRange)
	for _, d := range []string{"", "\x80", "\x00\x00", spelled(last, "x"), spelled(last, a), spelled(last, last), spelled("", a), number(len(last)) + number(9000)} {
		wantNoRead(t, read(uponEarlier(api.MaxDepth, d)), nil, api.ErrDeep)
	}
	// Other bases are not so deep.
	for i := range api.MaxDepth {
		wantRead(t, read(uponEarlier(i, longer(objects[i], "!"))), nil, append(slices.Clone(objects), blob(objects[i][2:]+"!")))
	}
	next := blob(last[2:] + "+")
	wantRead(t, read(asWhole(next)), nil, append(slices.Clone(objects), next))
	// What is outside has no chain, even if it is in the pack with the deepest one.
	wantRead(t, read(uponOutside(digest(last), longer(last, "+"))), []string{last}, append(slices.Clone(objects), next))
}

func TestP5_3WrongDeltas(t *testing.T) {
	a := blob("abc")
	for d, want := range map[string]api.Errno{
		"":                                  api.ErrForm,
		"\x05":                              api.ErrForm,
		"\x05\x80":                          api.ErrForm,
		"\x04\x02\x04\x01\x00":              api.ErrBase,
		"\x06\x00":                          api.ErrBase,
		number(5) + number(api.MaxObject+1): api.ErrLong,
		"\x05\x02\x05\x04":                  api.ErrRange,
		"\x05\x02\x01\x06":                  api.ErrRange,
		"\x05\x02\x05":                      api.ErrForm,
		"\x05\x02\x00":                      api.ErrForm,
		"\x05\x02\x06\x01\x00\x00":          api.ErrForm,
		"\x05\x03\x04\x01\x00":              api.ErrForm,
		spelled(a, blob("d")) + "\x80":      api.ErrForm,
	} {
		for _, b := range behind(uponOutside(digest(a), d)) {
			wantNoRead(t, b, []string{a}, want)
		}
		wantNoRead(t, packOf(asWhole(a), uponEarlier(0, d)), nil, want)
		wantNoRead(t, packOf(asWhole(a), uponEarlier(0, d), "\x03"), nil, want)
	}
}

func TestP5_3WrongObjects(t *testing.T) {
	a := blob("abc")
	for s, want := range wrongObjects() {
		for _, b := range behind(asWhole(s)) {
			wantNoRead(t, b, []string{a}, want)
		}
		// An error of Decode goes ahead of there being an equal one, and there can be no equal one.
		wantNoRead(t, packOf(asWhole(s), asWhole(s)), nil, want)
		if d := spelled(a, s); s != "" && len(d) <= api.MaxText {
			for _, b := range behind(uponOutside(digest(a), d)) {
				wantNoRead(t, b, []string{a}, want)
			}
			wantNoRead(t, packOf(asWhole(a), uponEarlier(0, d)), []string{a}, want)
		}
	}
	empty := number(len(a)) + "\x00"
	wantNoRead(t, packOf(asWhole(a), uponEarlier(0, empty)), nil, api.ErrForm)
	huge := strings.Repeat("h", 1<<20)
	wantNoRead(t, packOf(asWhole(huge)), nil, api.ErrLong)
}

func TestP5_3Twice(t *testing.T) {
	a, b := blob("abc"), blob("abcd")
	for _, again := range []string{asWhole(a), uponEarlier(0, spelled(a, a)), uponEarlier(1, spelled(b, a)), uponOutside(digest(b), spelled(b, a)), uponOutside(digest(a), "\x05\x05\x0b\x00")} {
		out := []string{a, b}
		wantNoRead(t, packOf(asWhole(a), asWhole(b), again), out, api.ErrTwice)
		wantNoRead(t, packOf(asWhole(a), uponEarlier(0, longer(a, "d")), again), out, api.ErrTwice)
		// Ahead of what is wrong behind it.
		wantNoRead(t, packOf(asWhole(a), asWhole(b), again, "\x03"), out, api.ErrTwice)
		wantNoRead(t, sealed("P\x03"+asWhole(a)+asWhole(b)+again+"further"), out, api.ErrTwice)
	}
	wantNoRead(t, packOf(asWhole(a), asWhole(a)), nil, api.ErrTwice)
	wantNoRead(t, packOf(asWhole(a), uponEarlier(0, longer(a, "d")), uponEarlier(0, longer(a, "d"))), nil, api.ErrTwice)
}

func TestP5_3FurtherBytes(t *testing.T) {
	a := blob("abc")
	for _, good := range []string{"P\x00", "P\x01" + asWhole(a), "P\x02" + asWhole(a) + uponEarlier(0, longer(a, "d")), "P\x01" + uponOutside(digest(a), longer(a, "d"))} {
		if checkRead(t, sealed(good), []string{a}) != api.OK {
			t.Errorf("%q is wrong by itself", good)
		}
		for _, more := range []string{"x", "\x00", "\x80", asWhole(blob("other")), asWhole(a), digest(good)} {
			wantNoRead(t, sealed(good+more), []string{a}, api.ErrForm)
		}
	}
}

// Every beginning of a pack that has a sum of its own ends inside of a representation, or ahead of one.
func TestP5_3Beginnings(t *testing.T) {
	list := versions(4)
	written, bad := Write(list[1:], list[:1])
	if bad != api.OK {
		t.Fatal(bad)
	}
	a := blob("abc")
	byHand := packOf(asWhole(a), uponEarlier(0, longer(a, "d")), uponOutside(digest(list[0]), spelled(list[0], blob("e"))))
	for _, b := range []string{written, byHand} {
		body := b[:len(b)-32]
		for n := 1; n < len(body); n++ {
			wantNoRead(t, sealed(body[:n]), list[:1], api.ErrForm)
		}
	}
	wantNoRead(t, byHand, nil, api.ErrBase)
}

func TestP5_3AllShortPacks(t *testing.T) {
	seen := map[api.Errno]int{}
	letters := "\x00\x01\x02\x03\x80"
	list := []string{"P"}
	for at := 0; at < len(list); at++ {
		b := list[at]
		seen[checkRead(t, sealed(b), nil)]++
		for i := 0; i < len(letters) && len(b) < 8; i++ {
			list = append(list, b+letters[i:i+1])
		}
	}
	for _, bad := range []api.Errno{api.OK, api.ErrForm, api.ErrRange, api.ErrKind} {
		if seen[bad] < 3 {
			t.Errorf("only %d packs with %d", seen[bad], bad)
		}
	}
}

// chancePack is mostly deltas upon the object before, with whole objects, other bases and wrong ones between them.
func chancePack(source *rand.Rand, list []string) string {
	var representations, objects []string
	for _, i := range source.Perm(len(list))[:source.Intn(25)] {
		s, base := list[i], list[source.Intn(len(list))]
		index := max(0, len(objects)-1-source.Intn(2)*source.Intn(3))
		representation := asWhole(s)
		switch way := source.Intn(100); {
		case way < 88 && len(objects) == 0:
			// There is nothing yet to stand upon.
		case way < 88:
			representation = uponEarlier(index, spelled(objects[index], s))
		case way < 91:
			representation = uponEarlier(source.Intn(15), spelled(base, s))
		case way < 95:
			representation = uponOutside(digest(base), spelled(base, s))
		case way < 97 && len(objects) > 0:
			s = objects[index]
			representation = asWhole(s)
		}
		representations, objects = append(representations, representation), append(objects, s)
	}
	return packOf(representations...)
}

func TestP5_3PacksByChance(t *testing.T) {
	source := rand.New(rand.NewSource(62))
	var list []string
	for range 60 {
		list = append(list, blob(noise(source, 3+source.Intn(30))))
	}
	list = append(list, "x", "", commit("t", "me", 1<<40, ""))
	seen := map[api.Errno]int{}
	for range 20_000 {
		b := chancePack(source, list)
		body := []byte(b[:len(b)-32])
		if source.Intn(2) == 0 {
			body[source.Intn(len(body))] ^= 1 << source.Intn(8)
		}
		seen[checkRead(t, sealed(string(body)), list[:50])]++
	}
	for _, bad := range []api.Errno{api.OK, api.ErrForm, api.ErrRange, api.ErrBase, api.ErrDeep, api.ErrTwice, api.ErrKind} {
		if seen[bad] < 50 {
			t.Errorf("only %d packs with %d", seen[bad], bad)
		}
	}
}

// mixedPack stores the objects in the three ways in turn.
func mixedPack(t *testing.T, l, out []string) string {
	var representations []string
	for i, s := range l {
		representation := asWhole(s)
		switch {
		case i%3 == 1:
			representation = uponEarlier(i-1, made(t, l[i-1], s))
		case i%3 == 2:
			base := out[i%len(out)]
			representation = uponOutside(digest(base), made(t, base, s))
		}
		representations = append(representations, representation)
	}
	b := packOf(representations...)
	wantRead(t, b, out, l)
	return b
}

func made(t *testing.T, base, target string) string {
	d, bad := delta.Make(base, target)
	if bad != api.OK || len(d) > api.MaxText {
		t.Fatalf("a delta of %d bytes, %d", len(d), bad)
	}
	return d
}

func TestP5_3ChangedPacks(t *testing.T) {
	source := rand.New(rand.NewSource(63))
	list := append(versions(12), samples()[:20]...)
	b := mixedPack(t, list[3:], list[:3])
	seen := map[api.Errno]int{}
	for range 5000 {
		body := []byte(b[:len(b)-32])
		for range 1 + source.Intn(2) {
			body[source.Intn(len(body))] ^= 1 << source.Intn(8)
		}
		seen[checkRead(t, sealed(string(body)), list[:3])]++
	}
	for _, bad := range []api.Errno{api.OK, api.ErrForm, api.ErrBase} {
		if seen[bad] < 50 {
			t.Errorf("only %d packs with %d", seen[bad], bad)
		}
	}
}

func FuzzP5_3Read(f *testing.F) {
	a := blob("abc")
	f.Add("P\x01"+asWhole(a), a)
	f.Add("P\x01"+uponOutside(digest(a), longer(a, "d")), a)
	f.Add("P\x02"+asWhole(a)+uponEarlier(0, longer(a, "d")), "")
	f.Fuzz(func(t *testing.T, body, other string) {
		checkRead(t, sealed(body), []string{other})
		checkRead(t, body, []string{other})
	})
}
