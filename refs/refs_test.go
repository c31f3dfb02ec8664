package refs

import (
	"math/rand"
	"slices"
	"strings"
	"testing"

	"cartulary/api"
)

func TestP8_1Named(t *testing.T) {
	for _, s := range []string{
		"a", "z", "0", "9", "-", "_", "main", "main/a", "a/b/c", "a/b-c_9", "-/_", "0/0", "a-/-a", "main/main",
		longest("a"), longest("a/"), longest("")[:59], strings.Repeat("a/", 29) + "a", strings.Repeat("a/", 29) + "aa",
	} {
		if !Named(s) {
			t.Errorf("not Named(%q)", s)
		}
	}
	for _, s := range noNames() {
		if Named(s) {
			t.Errorf("Named(%.100q)", s)
		}
	}
}

func TestP8_1NamedByBytes(t *testing.T) {
	const letters = "abcdefghijklmnopqrstuvwxyz0123456789-_"
	long := strings.Repeat("long/er", 9)[:59]
	for c := range 256 {
		s := string([]byte{byte(c)})
		if s == "/" {
			continue
		}
		// Alone, and at each place of a short name and of the longest one.
		for _, name := range []string{"", "abc", "a/b", long} {
			for i := range len(name) + 1 {
				if got := Named(name[:i] + s + name[i:]); got != strings.Contains(letters, s) {
					t.Errorf("Named(%q) = %t", name[:i]+s+name[i:], got)
				}
			}
		}
	}
}

func TestP8_1NamedBySlashes(t *testing.T) {
	long := strings.Repeat("long-er", 9)[:58]
	for i := range len(long) + 1 {
		if got := Named(long[:i] + "/" + long[i:]); got != (i > 0 && i < len(long)) {
			t.Errorf("Named with a slash at %d = %t", i, got)
		}
		for j := range i + 1 {
			s := long[:j] + "/" + long[j:i] + "/" + long[i:]
			if got := Named(s); got != (j > 0 && j < i && i < len(long)) {
				t.Errorf("Named(%q) = %t", s, got)
			}
		}
	}
}

func TestP8_1NamedBySize(t *testing.T) {
	for n := range 200 {
		for _, s := range []string{"a", "a/", "ab/", "abcdefg/"} {
			name := strings.Repeat(s, 200)[:n]
			if got := Named(name); got != slowNamed(name) {
				t.Errorf("Named(%q) = %t", name, got)
			}
		}
	}
}

// Every string of up to six of these bytes.
func TestP8_1NamedOfShortStrings(t *testing.T) {
	list := []string{""}
	for range 6 {
		var longer []string
		for _, s := range list {
			if got := Named(s); got != slowNamed(s) {
				t.Fatalf("Named(%q) = %t", s, got)
			}
			for _, c := range "a_/.A\x00" {
				longer = append(longer, s+string(c))
			}
		}
		list = longer
	}
	for _, s := range list {
		if got := Named(s); got != slowNamed(s) {
			t.Fatalf("Named(%q) = %t", s, got)
		}
	}
}

func TestP8_1NamedByChance(t *testing.T) {
	random := rand.New(rand.NewSource(81))
	yes := 0
	for range 100000 {
		b := make([]byte, random.Intn(64))
		for i := range b {
			b[i] = "abz09-_///"[random.Intn(10)]
		}
		if random.Intn(10) == 0 && len(b) > 0 {
			b[random.Intn(len(b))] = byte(random.Intn(256))
		}
		s := string(b)
		if random.Intn(2) == 0 {
			for strings.Contains(s, "//") {
				s = strings.ReplaceAll(s, "//", "/")
			}
			s = strings.Trim(s, "/")
		}
		if slowNamed(s) {
			yes++
		}
		if got := Named(s); got != slowNamed(s) {
			t.Fatalf("Named(%q) = %t", s, got)
		}
	}
	if yes < 1000 {
		t.Errorf("only %d names", yes)
	}
}

// A loop over the pieces may end ahead of the last one.
func TestP8_1Pieces(t *testing.T) {
	for _, s := range []string{"", "/", "//", "a", "a/", "/a", "a/b", "a//b", "main/a/b", "a/b/c/"} {
		want := strings.Split(s, "/")
		if got := slices.Collect(pieces(s)); !slices.Equal(got, want) {
			t.Errorf("pieces of %q = %q", s, got)
		}
		for most := 1; most <= len(want); most++ {
			var got []string
			for piece := range pieces(s) {
				if got = append(got, piece); len(got) == most {
					break
				}
			}
			if !slices.Equal(got, want[:most]) {
				t.Errorf("the first %d pieces of %q = %q", most, s, got)
			}
		}
	}
}

func TestP8_2Good(t *testing.T) {
	for _, l := range rightLists() {
		if !Good(l) {
			t.Errorf("not Good: %q", l)
		}
	}
	for _, l := range wrongLists() {
		if Good(l) {
			t.Errorf("Good: %.300q", l)
		}
	}
	for _, name := range noNames() {
		if Good([]api.Ref{{Name: name, Id: made("a")}}) {
			t.Errorf("Good with the name %.100q", name)
		}
	}
	for _, id := range append(noIds(), "") {
		if Good([]api.Ref{{Name: "a", Id: id}}) {
			t.Errorf("Good with the id %.100q", id)
		}
	}
}

// Whatever is wrong is wrong at each place of the list.
func TestP8_2GoodAtEachPlace(t *testing.T) {
	for _, many := range []int{2, 3, api.MaxRefs} {
		l := numbered(many)
		for i, r := range l {
			for _, wrong := range []api.Ref{
				{}, {Name: r.Name}, {Id: r.Id}, {Name: r.Name + "/", Id: r.Id}, {Name: r.Name + ".", Id: r.Id}, {Name: strings.ToUpper(r.Name), Id: r.Id},
				{Name: r.Name, Id: r.Id[1:]}, {Name: r.Name, Id: r.Id + "="}, {Name: l[(i+1)%many].Name, Id: r.Id}, {Name: l[(i+many-1)%many].Name, Id: r.Id},
			} {
				changed := slices.Clone(l)
				changed[i] = wrong
				if Good(changed) {
					t.Errorf("Good with ref %d = %q", i, wrong)
				}
			}
			for _, right := range []api.Ref{{Name: r.Name + "-", Id: r.Id}, {Name: r.Name + "/a", Id: r.Id}, {Name: r.Name, Id: made("other")}} {
				changed := slices.Clone(l)
				changed[i] = right
				if !Good(changed) {
					t.Errorf("not Good with ref %d = %q", i, right)
				}
			}
		}
	}
}

func TestP8_2GoodBySize(t *testing.T) {
	for many := range 3 * api.MaxRefs {
		if got := Good(numbered(many)); got != (many <= 32) {
			t.Errorf("Good of %d refs = %t", many, got)
		}
	}
}

// The order is that of the bytes: a slash is less than a digit and greater than a hyphen.
func TestP8_2GoodInOrder(t *testing.T) {
	names := []string{"-", "-a", "0", "_", "a", "a-", "a-b", "a/-", "a/b", "a/b/c", "a0", "a_", "aa", "ab", "b", "b/a"}
	for i, first := range names {
		for j, second := range names {
			if got := Good(named(first, second)); got != (i < j) {
				t.Errorf("Good of %q, %q = %t", first, second, got)
			}
		}
	}
}

func TestP8_3Get(t *testing.T) {
	for _, l := range rightLists() {
		want := asMap(l)
		for _, r := range l {
			for _, name := range []string{r.Name, r.Name + "-", r.Name + "/", r.Name[1:], r.Name[:len(r.Name)-1], strings.ToUpper(r.Name), r.Name + "\x00"} {
				if got := Get(l, name); got != want[name] {
					t.Errorf("Get(%q, %q) = %q", l, name, got)
				}
			}
		}
		for _, name := range append(noNames(), "a", "b", "bb", "n", "n11", "zz") {
			if got := Get(l, name); got != want[name] {
				t.Errorf("Get(%q, %.100q) = %q", l, name, got)
			}
		}
	}
}

// In a list that is not valid there is no ref.
func TestP8_3GetFromWrongLists(t *testing.T) {
	for _, l := range wrongLists() {
		for _, name := range []string{"", "a", "b", "c", "main", "a/b", "n10", "n74", "A", "b//c", "a\x00"} {
			if got := Get(l, name); got != "" {
				t.Errorf("Get(%.300q, %q) = %q", l, name, got)
			}
		}
		for _, r := range l[:min(len(l), 100)] {
			if got := Get(l, r.Name); got != "" {
				t.Errorf("Get(%.300q, %.100q) = %q", l, r.Name, got)
			}
		}
	}
}
