package refs

import (
	"maps"
	"regexp"
	"slices"
	"strconv"
	"strings"
	"testing"

	"cartulary/api"
)

// made is an id that can be read.
func made(s string) string {
	return s + strings.Repeat("=", 32-len(s))
}

// named is the list of refs of these names in this order, each with another id.
func named(names ...string) []api.Ref {
	var l []api.Ref
	for i, name := range names {
		l = append(l, api.Ref{Name: name, Id: made(strconv.Itoa(i))})
	}
	return l
}

// numbered is a list of so many refs, whose names are n10, n12 and so on.
func numbered(many int) []api.Ref {
	var names []string
	for i := range many {
		names = append(names, "n"+strconv.Itoa(10+2*i))
	}
	return named(names...)
}

var form = regexp.MustCompile(`\A[-_a-z0-9]+(/[-_a-z0-9]+)*\z`)

// slowNamed is another way to Named.
func slowNamed(s string) bool {
	return len(s) <= 60 && form.MatchString(s)
}

// longest is a name of just as many bytes as may be.
func longest(first string) string {
	return first + strings.Repeat("z", 60-len(first))
}

// rightLists are valid, up to what may just be.
func rightLists() [][]api.Ref {
	return [][]api.Ref{
		nil, {}, named("a"), named("main", "main/a"), named("-", "0", "_", "a", "z"), named("a-", "a-b", "a/b", "a0", "a_b", "aa"),
		named(longest("a/"), longest("b")), named("a", "b", "c"), numbered(api.MaxRefs - 1), numbered(api.MaxRefs),
		{{Name: "a", Id: made("same")}, {Name: "b", Id: made("same")}},
		{{Name: "a", Id: strings.Repeat("\x00", 32)}, {Name: "b", Id: strings.Repeat("\xff", 32)}},
	}
}

// wrongLists are not valid, each for another reason.
func wrongLists() [][]api.Ref {
	return [][]api.Ref{
		named("b", "a"), named("a", "a"), named("a", "c", "b"), named("b", "a", "c"), named("a", "b", "b"), named("a", "b", "c", "a"),
		named("a/b", "a-b"), named("a", "a/b", "a-"), named("a0", "a/b"), named("ab", "a"), named("main/a", "main"),
		named(""), named("", "a"), named("A", "a"), named("a", "b.c"), named("a", "b/"), named("/a"), named("a", "b//c", "d"),
		named("a", "b", "\xc3\xa4"), named(longest("a") + "z"), named("a", longest("b")+"/c"), named("a\x00"), named("a b"),
		{{Name: "a"}}, {{Name: "a", Id: made("a")[1:]}}, {{Name: "a", Id: made("a") + "="}}, {{Name: "a", Id: "a"}},
		{{Name: "a", Id: made("a")}, {Name: "b"}, {Name: "c", Id: made("c")}},
		{{Name: "a", Id: made("a")}, {Name: "b", Id: made("b")}, {Name: "c", Id: made("c") + made("c")}},
		{{}}, {{Id: made("a")}}, make([]api.Ref, 3), numbered(api.MaxRefs + 1), numbered(2 * api.MaxRefs), make([]api.Ref, 1<<16),
	}
}

// noNames are none of a ref, each for another reason.
func noNames() []string {
	return []string{
		"", "/", "//", "/a", "a/", "a//b", "a/b/", "A", "a.b", "a b", "a\n", "\na", "a\x00", "\xff", "\u00e4", "main/\u017f", "a\\b",
		".", "..", "a/../b", longest("a") + "z", longest("a/") + "z", longest("a") + "/z", strings.Repeat("a/", 30), strings.Repeat("a", 1<<20),
	}
}

// noIds are neither ids nor empty.
func noIds() []string {
	return []string{"x", "\x00", made("x")[1:], made("x") + "=", made("x") + made("x"), strings.Repeat("0f", 32), strings.Repeat("i", 1<<20)}
}

// asMap is another form of a list.
func asMap(l []api.Ref) map[string]string {
	m := map[string]string{}
	for _, r := range l {
		m[r.Name] = r.Id
	}
	return m
}

// fromMap is the list that has this form.
func fromMap(m map[string]string) []api.Ref {
	var l []api.Ref
	for _, name := range slices.Sorted(maps.Keys(m)) {
		l = append(l, api.Ref{Name: name, Id: m[name]})
	}
	return l
}

// slowSet is another way to Set, for a valid list.
func slowSet(l []api.Ref, name, old, id string) ([]api.Ref, api.Errno) {
	m := asMap(l)
	switch {
	case !slowNamed(name), len(old)%32 != 0, len(id)%32 != 0, len(old) > 32, len(id) > 32:
		return nil, api.ErrForm
	case m[name] != old:
		return nil, api.ErrOld
	}
	m[name] = id
	if id == "" {
		delete(m, name)
	}
	if len(m) > 32 {
		return nil, api.ErrFull
	}
	return fromMap(m), api.OK
}

// wantSet also asks that neither the list nor the room behind it is touched, and that the result has its own memory.
func wantSet(t *testing.T, l []api.Ref, name, old, id string, want []api.Ref, wantBad api.Errno) {
	t.Helper()
	spare := api.Ref{Name: "spare", Id: made("spare")}
	roomy := append(slices.Clone(l), spare, spare)
	got, bad := Set(roomy[:len(l)], name, old, id)
	if !slices.Equal(got, want) || bad != wantBad {
		t.Errorf("Set(%.300q, %.80q, %.80q, %.80q) = %.300q, %d, want %.300q, %d", l, name, old, id, got, bad, want, wantBad)
	}
	for i := range got {
		got[i] = api.Ref{}
	}
	_ = append(got, spare)
	if !slices.Equal(roomy[:len(l)], l) || roomy[len(l)] != spare || roomy[len(l)+1] != spare {
		t.Errorf("Set(%.300q, %.80q, %.80q, %.80q) touches its argument: %.300q", l, name, old, id, roomy)
	}
}

func wantNoSet(t *testing.T, l []api.Ref, name, old, id string, want api.Errno) {
	t.Helper()
	wantSet(t, l, name, old, id, nil, want)
}
