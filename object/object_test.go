package object

import (
	"crypto/sha256"
	"math"
	"slices"
	"strconv"
	"strings"
	"testing"

	"cartulary/api"
	"cartulary/sum"
)

// id is one of many ids, each of them another one.
func id(n int) string {
	return sum.Sum("id " + strconv.Itoa(n))
}

func blob(data string) api.Object {
	return api.Object{Kind: api.Blob, Data: data}
}

func tree(entries ...api.Entry) api.Object {
	return api.Object{Kind: api.Tree, Entries: entries}
}

// treeOf has an entry for each name.
func treeOf(names ...string) api.Object {
	o := tree()
	for i, name := range names {
		o.Entries = append(o.Entries, api.Entry{Name: name, Dir: i%2 == 1, Id: id(i)})
	}
	return o
}

func commit(parents ...string) api.Object {
	return api.Object{Kind: api.Commit, Tree: id(100), Parents: parents, Who: "me", Time: 7, Note: "first\nsecond"}
}

func tag() api.Object {
	return api.Object{Kind: api.Tag, Target: id(200), Who: "you", Note: "v1"}
}

// changed is an object after a change to a copy of it.
func changed(o api.Object, change func(o *api.Object)) api.Object {
	o.Entries = slices.Clone(o.Entries)
	o.Parents = slices.Clone(o.Parents)
	change(&o)
	return o
}

// names are as many as are wanted, in increasing order and as long as may be.
func names(many int) []string {
	var list []string
	for i := range many {
		list = append(list, strings.Repeat("n", api.MaxName-3)+strconv.Itoa(100+i))
	}
	return list
}

func ids(many int) []string {
	var list []string
	for i := range many {
		list = append(list, id(i))
	}
	return list
}

// sameObject does not tell a nil list from an empty one, as the document does not.
func sameObject(a, b api.Object) bool {
	return a.Kind == b.Kind && a.Data == b.Data && slices.Equal(a.Entries, b.Entries) && a.Tree == b.Tree &&
		slices.Equal(a.Parents, b.Parents) && a.Who == b.Who && a.Note == b.Note && a.Time == b.Time && a.Target == b.Target
}

func wantGood(t *testing.T, o api.Object, want api.Errno) {
	t.Helper()
	if got := Good(o); got != want {
		t.Errorf("Good(%.300s) = %d, want %d", describe(o), got, want)
	}
}

func describe(o api.Object) string {
	s := "kind " + strconv.Itoa(o.Kind) + " data " + strconv.Quote(o.Data)
	for _, e := range o.Entries {
		s += " entry " + strconv.Quote(e.Name) + " " + strconv.Itoa(len(e.Id))
	}
	for _, p := range o.Parents {
		s += " parent of " + strconv.Itoa(len(p)) + " bytes"
	}
	return s + " who " + strconv.Quote(o.Who) + " time " + strconv.Itoa(o.Time) + " note " + strconv.Quote(o.Note) +
		" tree " + strconv.Itoa(len(o.Tree)) + " target " + strconv.Itoa(len(o.Target))
}

// wantName asks both for a tree whose only entry has the name and for one in which another entry goes before it.
func wantName(t *testing.T, name string, want api.Errno) {
	t.Helper()
	wantGood(t, tree(api.Entry{Name: name, Id: id(1)}), want)
	wantGood(t, tree(api.Entry{Name: name, Dir: true, Id: id(1)}), want)
	if name > "!" {
		wantGood(t, treeOf("!", name), want)
	}
}

func TestP3_1NamesOfOneByte(t *testing.T) {
	for c := range 256 {
		want := api.ErrForm
		if c >= 33 && c <= 126 && c != '/' && c != '.' {
			want = api.OK
		}
		wantName(t, string([]byte{byte(c)}), want)
	}
}

func TestP3_1NamesOfTwoBytes(t *testing.T) {
	allowed := func(c int) bool { return c >= 33 && c <= 126 && c != '/' }
	for first := range 256 {
		for second := range 256 {
			name := string([]byte{byte(first), byte(second)})
			want := api.ErrForm
			if allowed(first) && allowed(second) && name != ".." {
				want = api.OK
			}
			wantGood(t, treeOf(name), want)
		}
	}
}

func TestP3_1GoodNames(t *testing.T) {
	for _, name := range []string{
		"a", "!", "~", "-", "\\", "...", ".a", "a.", "..a", "a..", ".-.", "~~", "!!", "README.md", "A:B",
		strings.Repeat("~", api.MaxName), strings.Repeat(".", api.MaxName), strings.Repeat("x", api.MaxName-1),
	} {
		wantName(t, name, api.OK)
	}
}

func TestP3_1WrongNames(t *testing.T) {
	long := strings.Repeat("x", api.MaxName)
	for _, name := range []string{
		"", ".", "..", "/", "a/b", "/a", "a/", "./a", "../a", " ", "a b", " a", "a ", "a\x00", "\x00a", "a\nb", "a\tb", "\x7f", "a\x7fb",
		long + "x", long + "/", strings.Repeat(".", api.MaxName+1), strings.Repeat("x", 10_000),
		// Runes and bytes that would do if only their low bits were looked at.
		"é", "aé", "éa", "Ł", "İ", "世界", "\U00010041", "\xe1", "a\xff", "\x80", "\xc1\xa1", "\xed\xa0\x80", "\ufffd",
		strings.Repeat("x", api.MaxName-1) + "é", strings.Repeat("x", api.MaxName-1) + "\x7f",
	} {
		wantName(t, name, api.ErrForm)
	}
}

func TestP3_1IdsHave32Bytes(t *testing.T) {
	for s, want := range map[string]api.Errno{
		"":                             api.ErrForm,
		"x":                            api.ErrForm,
		strings.Repeat("x", 31):        api.ErrForm,
		strings.Repeat("x", 33):        api.ErrForm,
		strings.Repeat("x", 64):        api.ErrForm,
		strings.Repeat("é", 32):        api.ErrForm,
		sum.Hex(id(1)):                 api.ErrForm,
		id(1) + id(2):                  api.ErrForm,
		strings.Repeat("x", 32):        api.OK,
		strings.Repeat("\x00", 32):     api.OK,
		strings.Repeat("\xff/", 16):    api.OK,
		strings.Repeat("é", 16):        api.OK,
		strings.Repeat(" ", 31) + "\n": api.OK,
	} {
		wantGood(t, tree(api.Entry{Name: "a", Id: s}), want)
		wantGood(t, tree(api.Entry{Name: "a", Id: id(1)}, api.Entry{Name: "b", Id: s}), want)
		wantGood(t, commit(s), want)
		wantGood(t, commit(id(1), s, id(2)), want)
		wantGood(t, changed(commit(), func(o *api.Object) { o.Tree = s }), want)
		wantGood(t, changed(tag(), func(o *api.Object) { o.Target = s }), want)
	}
}

func TestP3_2GoodObjects(t *testing.T) {
	long := strings.Repeat("\xff", api.MaxText)
	for _, o := range []api.Object{
		blob(""), blob("hello"), blob("\x00\xff\x00"), blob(long),
		tree(), treeOf("a"), treeOf(names(api.MaxEntries)...),
		commit(), commit(id(1)), commit(ids(api.MaxParents)...), commit(id(100)),
		tag(),
		{Kind: api.Commit, Tree: id(1)},
		{Kind: api.Tag, Target: id(1)},
		{Kind: api.Commit, Tree: id(1), Who: long, Note: long},
		{Kind: api.Tag, Target: id(1), Who: long, Note: long},
		// One id may stand for several entries.
		tree(api.Entry{Name: "a", Id: id(1)}, api.Entry{Name: "b", Id: id(1)}, api.Entry{Name: "c", Dir: true, Id: id(1)}),
		// Who and Note are any bytes but 0.
		{Kind: api.Tag, Target: id(1), Who: "\x01\x7f\x80\xff", Note: "zwei\nZeilen, é\xc3"},
	} {
		wantGood(t, o, api.OK)
	}
}

func TestP3_2EmptyLists(t *testing.T) {
	for _, o := range []api.Object{blob("a"), tree(), commit(), tag()} {
		o.Entries, o.Parents = []api.Entry{}, []string{}
		wantGood(t, o, api.OK)
	}
}

func TestP3_2Kinds(t *testing.T) {
	for _, kind := range []int{0, 5, 6, -1, -4, 255, 257, 1<<32 + 1, math.MinInt, math.MaxInt} {
		wantGood(t, api.Object{Kind: kind}, api.ErrKind)
		// The kind goes ahead of all else that is wrong.
		wantGood(t, wrongInAll(kind), api.ErrKind)
	}
}

// wrongInAll is an object in which every field is set, and wrong.
func wrongInAll(kind int) api.Object {
	long := strings.Repeat("\x00", api.MaxText+1)
	return api.Object{Kind: kind, Data: long, Entries: make([]api.Entry, api.MaxEntries+1), Tree: "t",
		Parents: make([]string, api.MaxParents+1), Who: long, Note: long, Time: -1, Target: "t"}
}

func TestP3_2FieldsOfOtherKinds(t *testing.T) {
	fields := []struct {
		name  string
		kinds []int
		set   func(o *api.Object)
	}{
		{"Data", []int{api.Blob}, func(o *api.Object) { o.Data = "\x00" }},
		{"Entries", []int{api.Tree}, func(o *api.Object) { o.Entries = treeOf("a").Entries }},
		{"Tree", []int{api.Commit}, func(o *api.Object) { o.Tree = id(3) }},
		{"Parents", []int{api.Commit}, func(o *api.Object) { o.Parents = ids(1) }},
		{"Who", []int{api.Commit, api.Tag}, func(o *api.Object) { o.Who = "w" }},
		{"Note", []int{api.Commit, api.Tag}, func(o *api.Object) { o.Note = "n" }},
		{"Time", []int{api.Commit}, func(o *api.Object) { o.Time = 1 }},
		{"Time", nil, func(o *api.Object) { o.Time = -1 }},
		{"Target", []int{api.Tag}, func(o *api.Object) { o.Target = id(3) }},
		{"Entries", nil, func(o *api.Object) { o.Entries = make([]api.Entry, 1) }},
		{"Parents", nil, func(o *api.Object) { o.Parents = make([]string, 1) }},
	}
	for _, o := range []api.Object{blob("d"), treeOf("a"), commit(id(1)), tag()} {
		for _, f := range fields {
			want := api.ErrForm
			if slices.Contains(f.kinds, o.Kind) {
				want = api.OK
			}
			if f.kinds == nil && o.Kind == api.Commit && f.name == "Time" {
				want = api.ErrRange
			}
			wantGood(t, changed(o, f.set), want)
		}
		wantGood(t, wrongInAll(o.Kind), api.ErrForm)
	}
}

func TestP3_2LongTexts(t *testing.T) {
	for _, more := range []int{1, 2, api.MaxText, 100_000} {
		long := strings.Repeat("l", api.MaxText+more)
		wantGood(t, blob(long), api.ErrLong)
		for _, o := range []api.Object{commit(id(1)), tag()} {
			wantGood(t, changed(o, func(o *api.Object) { o.Who = long }), api.ErrLong)
			wantGood(t, changed(o, func(o *api.Object) { o.Note = long }), api.ErrLong)
		}
	}
	// The limit counts bytes, not runes.
	wantGood(t, blob(strings.Repeat("é", api.MaxText/2)), api.OK)
	wantGood(t, blob(strings.Repeat("é", api.MaxText/2+1)), api.ErrLong)
}

func TestP3_2TooMany(t *testing.T) {
	for _, more := range []int{1, 2, 100} {
		wantGood(t, treeOf(names(api.MaxEntries+more)...), api.ErrFull)
		wantGood(t, commit(ids(api.MaxParents+more)...), api.ErrFull)
	}
}

func TestP3_2NamesIncrease(t *testing.T) {
	for _, list := range [][]string{
		{"a", "b"}, {"a", "aa"}, {"Z", "a"}, {"a-b", "a.b"}, {"a", "b", "c"}, {"10", "9"}, {"!", "~"}, {"a", "a!"},
	} {
		wantGood(t, treeOf(list...), api.OK)
		slices.Reverse(list)
		wantGood(t, treeOf(list...), api.ErrForm)
	}
	for _, list := range [][]string{
		{"a", "a"}, {"a", "b", "b"}, {"a", "a", "b"}, {"a", "c", "b"}, {"b", "c", "a"}, {"a", "b", "a"}, {"a", "c", "b", "d"},
	} {
		wantGood(t, treeOf(list...), api.ErrForm)
	}
	// Entries that differ in all but the name are no better.
	wantGood(t, tree(api.Entry{Name: "a", Id: id(1)}, api.Entry{Name: "a", Dir: true, Id: id(2)}), api.ErrForm)
	// Entries that are wrong only at the end are wrong.
	many := names(api.MaxEntries)
	many[api.MaxEntries-1] = many[api.MaxEntries-2]
	wantGood(t, treeOf(many...), api.ErrForm)
}

func TestP3_2ParentsInOrder(t *testing.T) {
	a, b, c, bad := id(1), id(2), id(3), "p"
	for _, test := range []struct {
		parents []string
		want    api.Errno
	}{
		{[]string{a, b, c}, api.OK},
		{[]string{c, a, b, id(4)}, api.OK},
		{[]string{a, a}, api.ErrTwice},
		{[]string{a, b, a}, api.ErrTwice},
		{[]string{a, b, c, c}, api.ErrTwice},
		{[]string{a, b, c, b}, api.ErrTwice},
		{[]string{a, b, c, bad}, api.ErrForm},
		// The first parent that is wrong tells.
		{[]string{a, a, bad}, api.ErrTwice},
		{[]string{a, bad, a}, api.ErrForm},
		{[]string{bad, a, a}, api.ErrForm},
		{[]string{bad, bad}, api.ErrForm},
		{[]string{"", ""}, api.ErrForm},
		{[]string{a, b, a, bad}, api.ErrTwice},
	} {
		wantGood(t, commit(test.parents...), test.want)
	}
}

func TestP3_2ZeroBytes(t *testing.T) {
	for _, s := range []string{"\x00", "a\x00", "\x00a", "a\x00b", "é\x00", "\xc3\x00", "\xe4\xb8\x00", "\xff\x00\xff", strings.Repeat("x", api.MaxText-1) + "\x00"} {
		for _, o := range []api.Object{commit(id(1)), tag()} {
			wantGood(t, changed(o, func(o *api.Object) { o.Who = s }), api.ErrForm)
			wantGood(t, changed(o, func(o *api.Object) { o.Note = s }), api.ErrForm)
		}
		wantGood(t, blob(s), api.OK)
	}
	// The overlong form of 0 is no byte 0.
	wantGood(t, changed(tag(), func(o *api.Object) { o.Who = "\xc0\x80" }), api.OK)
}

func TestP3_2Times(t *testing.T) {
	for time, want := range map[int]api.Errno{
		0: api.OK, 1: api.OK, 1<<32 - 1: api.OK, 1 << 32: api.OK, 1<<40 - 1: api.OK,
		-1: api.ErrRange, -(1 << 40): api.ErrRange, math.MinInt: api.ErrRange,
		1 << 40: api.ErrRange, 1<<40 + 1: api.ErrRange, 1 << 62: api.ErrRange, math.MaxInt: api.ErrRange,
	} {
		wantGood(t, changed(commit(id(1)), func(o *api.Object) { o.Time = time }), want)
	}
}

// flaw makes an object wrong in one way.
type flaw struct {
	want api.Errno
	make func(o *api.Object)
}

// wantFirst asks that of any two flaws the one that stands first in the list tells.
func wantFirst(t *testing.T, o api.Object, flaws []flaw) {
	t.Helper()
	wantGood(t, o, api.OK)
	for i, first := range flaws {
		wantGood(t, changed(o, first.make), first.want)
		for _, second := range flaws[i+1:] {
			both := changed(o, second.make)
			first.make(&both)
			wantGood(t, both, first.want)
		}
	}
}

func TestP3_2OrderForCommits(t *testing.T) {
	long := strings.Repeat("x", api.MaxText+1)
	wantFirst(t, commit(ids(3)...), []flaw{
		{api.ErrKind, func(o *api.Object) { o.Kind = 9 }},
		{api.ErrForm, func(o *api.Object) { o.Target = id(1) }},
		{api.ErrLong, func(o *api.Object) { o.Note = long }},
		{api.ErrFull, func(o *api.Object) { o.Parents = append(o.Parents, ids(api.MaxParents)...) }},
		{api.ErrTwice, func(o *api.Object) { o.Parents[1] = o.Parents[0] }},
		{api.ErrForm, func(o *api.Object) { o.Who = "\x00" }},
		{api.ErrRange, func(o *api.Object) { o.Time = -1 }},
	})
	wantFirst(t, commit(ids(3)...), []flaw{
		{api.ErrLong, func(o *api.Object) { o.Who = long }},
		{api.ErrFull, func(o *api.Object) { o.Parents = make([]string, api.MaxParents+1) }},
		{api.ErrForm, func(o *api.Object) { o.Parents[0] = "p" }},
		{api.ErrTwice, func(o *api.Object) { o.Parents[2] = o.Parents[1] }},
		{api.ErrForm, func(o *api.Object) { o.Tree = "t" }},
		{api.ErrRange, func(o *api.Object) { o.Time = 1 << 40 }},
	})
}

func TestP3_2OrderForOtherKinds(t *testing.T) {
	long := strings.Repeat("\x00", api.MaxText+1)
	wantFirst(t, blob(""), []flaw{
		{api.ErrKind, func(o *api.Object) { o.Kind = 0 }},
		{api.ErrForm, func(o *api.Object) { o.Time = 1 }},
		{api.ErrLong, func(o *api.Object) { o.Data = long }},
	})
	wantFirst(t, treeOf("a"), []flaw{
		{api.ErrKind, func(o *api.Object) { o.Kind = -2 }},
		{api.ErrForm, func(o *api.Object) { o.Who = long }},
		{api.ErrFull, func(o *api.Object) { o.Entries = append(o.Entries, make([]api.Entry, api.MaxEntries)...) }},
		{api.ErrForm, func(o *api.Object) { o.Entries[0].Name = "" }},
	})
	wantFirst(t, tag(), []flaw{
		{api.ErrKind, func(o *api.Object) { o.Kind = 5 }},
		{api.ErrForm, func(o *api.Object) { o.Time = -1 }},
		{api.ErrLong, func(o *api.Object) { o.Who = long }},
		{api.ErrForm, func(o *api.Object) { o.Target = "t" }},
	})
}

func TestP3_3IdIsTheSum(t *testing.T) {
	for _, s := range []string{"", "\x01\x00", "no object", strings.Repeat("long", 10_000)} {
		want := sha256.Sum256([]byte(s))
		if got := Id(s); got != string(want[:]) {
			t.Errorf("Id(%.20q) = %x, want %x", s, got, want)
		}
	}
}

func wantLinks(t *testing.T, o api.Object, want ...string) {
	t.Helper()
	if got := Links(o); !slices.Equal(got, want) {
		t.Errorf("Links(%s) = %q, want %q", describe(o), got, want)
	}
}

func TestP3_5Links(t *testing.T) {
	wantLinks(t, blob(""))
	wantLinks(t, blob(id(1)))
	wantLinks(t, tree())
	wantLinks(t, treeOf("a", "b", "c"), id(0), id(1), id(2))
	wantLinks(t, commit(), id(100))
	wantLinks(t, commit(id(3), id(1), id(2)), id(100), id(3), id(1), id(2))
	wantLinks(t, tag(), id(200))
	wantLinks(t, treeOf(names(api.MaxEntries)...), ids(api.MaxEntries)...)
}

// An id to which an object refers twice is told twice.
func TestP3_5LinksThatOccurTwice(t *testing.T) {
	wantLinks(t, tree(api.Entry{Name: "a", Id: id(1)}, api.Entry{Name: "b", Id: id(2)}, api.Entry{Name: "c", Id: id(1)}), id(1), id(2), id(1))
	wantLinks(t, commit(id(100)), id(100), id(100))
}

// Links answers by the kind alone, whatever else an object has or lacks.
func TestP3_5LinksOfWrongObjects(t *testing.T) {
	all := api.Object{Data: "d", Entries: treeOf("b", "a").Entries, Tree: "t", Parents: []string{"p", "", "p", "q", "r", "s"}, Target: "g"}
	for kind, want := range map[int][]string{
		api.Blob:    nil,
		api.Tree:    {id(0), id(1)},
		api.Commit:  {"t", "p", "", "p", "q", "r", "s"},
		api.Tag:     {"g"},
		0:           nil,
		5:           nil,
		-1:          nil,
		math.MaxInt: nil,
		math.MinInt: nil,
	} {
		all.Kind = kind
		wantLinks(t, all, want...)
	}
	wantLinks(t, api.Object{Kind: api.Commit}, "")
	wantLinks(t, api.Object{Kind: api.Tag}, "")
	wantLinks(t, api.Object{Kind: api.Tree, Entries: make([]api.Entry, 2)}, "", "")
}

// Neither the lists of an object nor their spare capacity change, and what Links returns is the caller's.
func TestP3_5ListsStayAsTheyAre(t *testing.T) {
	parents := append(ids(3), "spare")
	entries := append(treeOf("a", "b").Entries, api.Entry{Name: "spare"})
	for _, o := range []api.Object{commit(parents[:3]...), tree(entries[:2]...)} {
		Good(o)
		Encode(o)
		links := Links(o)
		for i := range links {
			links[i] = "changed"
		}
		_ = append(links, "more")
	}
	if !slices.Equal(parents, append(ids(3), "spare")) {
		t.Errorf("parents became %q", parents)
	}
	if !slices.Equal(entries, append(treeOf("a", "b").Entries, api.Entry{Name: "spare"})) {
		t.Errorf("entries became %v", entries)
	}
}
