package merkle

import (
	"math/rand"
	"os"
	"os/exec"
	"path/filepath"
	"slices"
	"strconv"
	"strings"
	"testing"

	"cartulary/sum"
)

func wantNoClash(t *testing.T, a, b []string) {
	t.Helper()
	if x, y := Clash(a, b); x != "" || y != "" {
		t.Errorf("Clash(%.200q, %.200q) = %.200q, %.200q", a, b, x, y)
	}
}

// No clash is known, so that no lists have one.
func TestP9_7NoClash(t *testing.T) {
	l := things(20)
	lists := [][]string{nil, {}, {""}, {"", ""}, {"", "", ""}, {"\x00"}, {"\x01" + Leaf("a") + Leaf("b")}, {"a", "b"}, {"b", "a"}, {Leaf("a"), Leaf("b")}}
	for many := range l {
		other := slices.Clone(l[:many+1])
		other[many/2] = "other"
		lists = append(lists, l[:many], l[many:], other)
	}
	for _, a := range lists {
		wantNoClash(t, a, slices.Clone(a))
		for _, b := range lists {
			wantNoClash(t, a, b)
		}
	}
	wantUntouched(t, l, func(a []string) {
		wantUntouched(t, l, func(b []string) { wantNoClash(t, a, b) })
	})
}

// weakSum has few sums, so that clashes are met everywhere.
const weakSum = `package sum

func Sum(b string) string {
	h := byte(7)
	for i := range len(b) {
		h = 31*(h^b[i]) + h>>3
	}
	weak := make([]byte, 32)
	for i := range weak {
		weak[i] = 'a' + h%3
	}
	return string(weak)
}
`

const weakRun = "CARTULARY_WEAK_SUM"

// What there is to find is found in a copy of the package that stands on weakSum.
func TestP9_7ClashOfWeakSum(t *testing.T) {
	if os.Getenv(weakRun) == "" {
		runOnWeakSum(t)
		return
	}
	if sum.Sum("") == digest("") {
		t.Fatal("the sum is not weak")
	}
	found := map[byte]int{}
	for many := range 6 {
		lists := allLists(many)
		for _, a := range lists {
			for _, b := range lists {
				wantWeakClash(t, a, b, found)
			}
		}
	}
	random := rand.New(rand.NewSource(97))
	for range 20000 {
		a := make([]string, random.Intn(40)+1)
		for i := range a {
			a[i] = strconv.Itoa(random.Intn(1000))
		}
		b := slices.Clone(a)
		for range random.Intn(3) + 1 {
			b[random.Intn(len(b))] = strconv.Itoa(random.Intn(1000))
		}
		wantWeakClash(t, a, b, found)
		wantWeakClash(t, a, b[1:], found)
		wantWeakClash(t, a, append(b, "more"), found)
	}
	if found['\x00'] < 1000 || found['\x01'] < 1000 || len(found) != 2 {
		t.Errorf("clashes by their first bytes: %v", found)
	}
}

func runOnWeakSum(t *testing.T) {
	module := t.TempDir()
	gomod, bad := os.ReadFile(filepath.Join("..", "go.mod"))
	for _, next := range []error{
		bad,
		os.WriteFile(filepath.Join(module, "go.mod"), gomod, 0o600),
		os.Mkdir(filepath.Join(module, "sum"), 0o700),
		os.WriteFile(filepath.Join(module, "sum", "sum.go"), []byte(weakSum), 0o600),
		os.CopyFS(filepath.Join(module, "merkle"), os.DirFS(".")),
	} {
		if next != nil {
			t.Fatal(next)
		}
	}
	run := exec.Command("go", "test", "-v", "-run", "^"+t.Name()+"$", "./merkle")
	run.Dir = module
	run.Env = append(os.Environ(), "PWD="+module, "GOWORK=off", weakRun+"=1")
	said, bad := run.CombinedOutput()
	if bad != nil || !strings.Contains(string(said), "--- PASS: "+t.Name()) {
		t.Fatalf("on a weak sum: %v\n%.4000s", bad, said)
	}
}

// allLists is the lists of so many of three things.
func allLists(many int) [][]string {
	lists := [][]string{nil}
	for range many {
		var longer [][]string
		for _, l := range lists {
			for _, s := range []string{"", "a", "bc"} {
				longer = append(longer, append(slices.Clone(l), s))
			}
		}
		lists = longer
	}
	return lists
}

// weakRoot is the Root of a list on a weak sum, row by row.
func weakRoot(l []string) string {
	if len(l) == 0 {
		return sum.Sum("")
	}
	var row []string
	for _, s := range l {
		row = append(row, sum.Sum("\x00"+s))
	}
	for len(row) > 1 {
		var next []string
		for i := 0; i < len(row); i += 2 {
			if i+1 == len(row) {
				next = append(next, row[i])
			} else {
				next = append(next, sum.Sum("\x01"+row[i]+row[i+1]))
			}
		}
		row = next
	}
	return row[0]
}

// wantWeakClash also counts the clashes by their first bytes.
func wantWeakClash(t *testing.T, a, b []string, found map[byte]int) {
	t.Helper()
	if len(a) != len(b) || slices.Equal(a, b) || weakRoot(a) != weakRoot(b) {
		wantNoClash(t, a, b)
		return
	}
	x, y := Clash(a, b)
	if x == y || sum.Sum(x) != sum.Sum(y) {
		t.Fatalf("Clash(%q, %q) = %q, %q", a, b, x, y)
	}
	found[x[0]]++
}
