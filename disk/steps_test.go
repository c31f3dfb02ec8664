package disk

import (
	"slices"
	"strconv"
	"strings"
	"testing"

	"cartulary/api"
)

// act is a call that makes another disk of one, by the program and by the slow way.
type act struct {
	name string
	do   func(d api.Disk) (api.Disk, api.Errno)
	slow func(m *slow) api.Errno
}

func writing(name, s string) act {
	return act{"Write(" + strconv.Quote(name) + ", " + strconv.Quote(s[:min(len(s), 20)]) + ")",
		func(d api.Disk) (api.Disk, api.Errno) { return Write(d, name, s) },
		func(m *slow) api.Errno { return m.write(name, s) }}
}

func syncing(name string) act {
	return act{"Sync(" + strconv.Quote(name) + ")",
		func(d api.Disk) (api.Disk, api.Errno) { return Sync(d, name) },
		func(m *slow) api.Errno { return m.sync(name) }}
}

func renaming(from, to string) act {
	return act{"Rename(" + strconv.Quote(from) + ", " + strconv.Quote(to) + ")",
		func(d api.Disk) (api.Disk, api.Errno) { return Rename(d, from, to) },
		func(m *slow) api.Errno { return m.rename(from, to) }}
}

func removing(name string) act {
	return act{"Remove(" + strconv.Quote(name) + ")",
		func(d api.Disk) (api.Disk, api.Errno) { return Remove(d, name) },
		func(m *slow) api.Errno { return m.remove(name) }}
}

func saving(name, s string) act {
	return act{"Save(" + strconv.Quote(name) + ", " + strconv.Quote(s[:min(len(s), 20)]) + ")",
		func(d api.Disk) (api.Disk, api.Errno) { return Save(d, name, s) },
		func(m *slow) api.Errno { return m.save(name, s) }}
}

func crashing(keep int) act {
	return act{"Crash(" + strconv.Itoa(keep) + ")",
		func(d api.Disk) (api.Disk, api.Errno) { return Crash(d, keep) },
		func(m *slow) api.Errno { return m.crash(keep) }}
}

// names are of files and of none, and some that no file may have.
var names = []string{
	"a", "b", "c", "a.new", "b.new", "n100", "n250", "n499", "z", "", "A", "a_", strings.Repeat("x", 76),
	strings.Repeat("x", 77), strings.Repeat("x", 80), strings.Repeat("x", 81),
}

func allActs() []act {
	var acts []act
	for _, name := range names {
		acts = append(acts, syncing(name), removing(name))
		for _, s := range []string{"", "more", full[1:], full, full + "x"} {
			acts = append(acts, writing(name, s), saving(name, s))
		}
		for _, to := range names {
			acts = append(acts, renaming(name, to))
		}
	}
	return append(acts, crashing(-1), crashing(0), crashing(2), crashing(1<<40))
}

// roomy is the disk with spare room behind its files, in which others lie.
func roomy(d api.Disk) api.Disk {
	files := append(slices.Clone(d.Files), api.File{Name: "spare"}, api.File{Safe: "spare"})
	return api.Disk{Files: files[:len(d.Files)], Fuse: d.Fuse}
}

// check does an act on a valid disk, asks for what the slow way comes to, and tells the disk behind it.
func check(t *testing.T, d api.Disk, a act) (api.Disk, api.Errno) {
	t.Helper()
	m := slowOf(d)
	wantBad := a.slow(&m)
	given := roomy(d)
	got, bad := a.do(given)
	if want := m.disk(); !sameDisk(got, want) || bad != wantBad {
		t.Errorf("%s on %s = %s, %d, want %s, %d", a.name, short(d), short(got), bad, short(want), wantBad)
	}
	if !Good(got) {
		t.Errorf("%s on %s = %s, which is not valid", a.name, short(d), short(got))
	}
	all := len(d.Files) + 2
	if again := roomy(d); !slices.Equal(given.Files[:all], again.Files[:all]) {
		t.Errorf("%s changed its argument %s", a.name, short(d))
	}
	return got, bad
}

func TestP6_2AllActs(t *testing.T) {
	seen := map[api.Errno]int{}
	acts := allActs()
	for _, d := range rightDisks() {
		if d.Fuse < -1 || d.Fuse > 2 {
			continue
		}
		for _, a := range acts {
			_, bad := check(t, d, a)
			seen[bad]++
		}
	}
	for _, bad := range []api.Errno{api.OK, api.ErrPower, api.ErrForm, api.ErrFull, api.ErrLong, api.ErrNone, api.ErrRange} {
		if seen[bad] < 10 {
			t.Errorf("only %d with %d", seen[bad], bad)
		}
	}
}

// steps are one call of each, which goes well on a disk of the files a and b.
func steps() []act {
	return []act{writing("a", "more"), writing("new", ""), syncing("a"), renaming("a", "b"), renaming("a", "new"), removing("b")}
}

func twoFiles(fuse int) api.Disk {
	return api.Disk{Fuse: fuse, Files: []api.File{{Name: "a", Safe: "A", Tail: "1"}, {Name: "b", Safe: "B", Tail: "2"}}}
}

func wantStep(t *testing.T, d api.Disk, a act, want api.Disk) {
	t.Helper()
	if got, bad := check(t, d, a); !sameDisk(got, want) || bad != api.OK {
		t.Errorf("%s on %s = %s, %d, want %s", a.name, short(d), short(got), bad, short(want))
	}
}

// wantNoStep asks for the disk as it was: also for its fuse.
func wantNoStep(t *testing.T, d api.Disk, a act, want api.Errno) {
	t.Helper()
	if got, bad := a.do(d); !sameDisk(got, d) || bad != want {
		t.Errorf("%s on %s = %s, %d, want %d", a.name, short(d), short(got), bad, want)
	}
}

func TestP6_2WrongDisks(t *testing.T) {
	// Ahead of every other error, and of the power.
	acts := append(steps(), writing("", ""), writing("a", full+"x"), syncing("none"), renaming("none", "A"), removing("none"),
		saving("a", "new"), saving("", "new"), saving("a", full+"x"), saving("A", ""))
	for _, d := range wrongDisks() {
		for _, a := range acts {
			wantNoStep(t, d, a, api.ErrRange)
		}
	}
}

func TestP6_2NoPower(t *testing.T) {
	// Ahead of the errors of the step itself.
	acts := append(steps(), writing("", ""), writing("A", full+"x"), writing("a", full), syncing("none"), renaming("none", "A"),
		renaming("none", "c"), renaming("a", ""), removing("none"), removing(""), saving("a", "new"), saving("c", full+"x"))
	for _, a := range acts {
		wantNoStep(t, twoFiles(0), a, api.ErrPower)
	}
	wantNoStep(t, api.Disk{}, writing("a", ""), api.ErrPower)
	wantNoStep(t, api.Disk{Files: numbered(api.MaxFiles).Files}, writing("a", ""), api.ErrPower)
	// Save names what is wrong with the name ahead of its steps.
	wantNoStep(t, twoFiles(0), saving("A", "new"), api.ErrForm)
}

func TestP6_2FuseBurns(t *testing.T) {
	for _, a := range steps() {
		for _, fuse := range fuses {
			want := fuse
			switch {
			case fuse == 0:
				continue
			case fuse > 0:
				want = fuse - 1
			}
			if got, bad := a.do(twoFiles(fuse)); got.Fuse != want || bad != api.OK {
				t.Errorf("%s with fuse %d leaves %d, %d", a.name, fuse, got.Fuse, bad)
			}
		}
	}
	// A step that fails burns nothing.
	for _, fuse := range []int{1, 2, -1, -2} {
		wantNoStep(t, twoFiles(fuse), writing("", ""), api.ErrForm)
		wantNoStep(t, twoFiles(fuse), writing("a", full), api.ErrLong)
		wantNoStep(t, twoFiles(fuse), syncing("c"), api.ErrNone)
		wantNoStep(t, twoFiles(fuse), renaming("c", "a"), api.ErrNone)
		wantNoStep(t, twoFiles(fuse), renaming("a", "A"), api.ErrForm)
		wantNoStep(t, twoFiles(fuse), removing("c"), api.ErrNone)
	}
}

// Just as many steps go well as the fuse says.
func TestP6_2StepsUntilThePowerFails(t *testing.T) {
	for fuse := range 7 {
		d := api.Disk{Fuse: fuse}
		for n := range 10 {
			after, bad := Write(d, "a", "x")
			if n < fuse && bad != api.OK || n >= fuse && bad != api.ErrPower {
				t.Errorf("fuse %d: step %d = %d", fuse, n, bad)
			}
			d = after
		}
		if s, _ := Read(d, "a"); s != strings.Repeat("x", fuse) || d.Fuse != 0 {
			t.Errorf("fuse %d: %s", fuse, short(d))
		}
	}
}

func TestP6_2Write(t *testing.T) {
	a, b := api.File{Name: "a", Safe: "A", Tail: "1"}, api.File{Name: "b", Safe: "B", Tail: "2"}
	for _, test := range []struct {
		name, s string
		want    []api.File
	}{
		{"a", "x", []api.File{{Name: "a", Safe: "A", Tail: "1x"}, b}},
		{"b", "yz", []api.File{a, {Name: "b", Safe: "B", Tail: "2yz"}}},
		{"a", "", []api.File{a, b}},
		{"-", "x", []api.File{{Name: "-", Tail: "x"}, a, b}},
		{"a.", "x", []api.File{a, {Name: "a.", Tail: "x"}, b}},
		{"ba", "", []api.File{a, b, {Name: "ba"}}},
		{strings.Repeat("b", 80), "x", []api.File{a, b, {Name: strings.Repeat("b", 80), Tail: "x"}}},
	} {
		wantStep(t, twoFiles(-1), writing(test.name, test.s), api.Disk{Files: test.want, Fuse: -1})
	}
	wantStep(t, api.Disk{Fuse: 1}, writing("n", "a"), api.Disk{Files: []api.File{{Name: "n", Tail: "a"}}})
	for _, name := range []string{"", "A", "a b", "a/b", "\xff", strings.Repeat("b", 81)} {
		wantNoStep(t, twoFiles(-1), writing(name, "x"), api.ErrForm)
		// Ahead of there being too many files, and of too many bytes.
		wantNoStep(t, numbered(api.MaxFiles), writing(name, full+"x"), api.ErrForm)
	}
}

func TestP6_2WriteOfManyFiles(t *testing.T) {
	d := api.Disk{Fuse: -1}
	want := api.Disk{Fuse: -1}
	// In an order that goes to and fro.
	for i := range api.MaxFiles {
		n := strconv.Itoa(1000 + i*7%api.MaxFiles)
		d, _ = check(t, d, writing(n, "content "+n))
		want.Files = append(want.Files, api.File{Name: strconv.Itoa(1000 + i), Tail: "content " + strconv.Itoa(1000+i)})
	}
	if !sameDisk(d, want) {
		t.Errorf("%d files: %s", len(d.Files), short(d))
	}
	wantNoStep(t, d, writing("2000", ""), api.ErrFull)
	wantNoStep(t, d, writing("0", full+"x"), api.ErrFull)
	check(t, d, writing("1000", "more"))
	wantNoStep(t, d, writing("1000", full), api.ErrLong)
	d, _ = check(t, d, removing("1200"))
	check(t, d, writing("2000", "x"))
}

func TestP6_2WriteOfManyBytes(t *testing.T) {
	for _, f := range []api.File{{Name: "a"}, {Name: "a", Safe: "s"}, {Name: "a", Tail: "t"}, {Name: "a", Safe: half}, {Name: "a", Safe: half, Tail: "t"}} {
		d := api.Disk{Files: []api.File{f}, Fuse: -1}
		room := api.MaxFile - len(f.Safe) - len(f.Tail)
		wantStep(t, d, writing("a", full[:room]), api.Disk{Files: []api.File{{Name: "a", Safe: f.Safe, Tail: f.Tail + full[:room]}}, Fuse: -1})
		wantNoStep(t, d, writing("a", (full + "x")[:room+1]), api.ErrLong)
		wantNoStep(t, d, writing("a", full+full), api.ErrLong)
	}
	for _, f := range []api.File{{Name: "a", Safe: full}, {Name: "a", Tail: full}, {Name: "a", Safe: half, Tail: half}} {
		d := api.Disk{Files: []api.File{f}, Fuse: -1}
		wantStep(t, d, writing("a", ""), d)
		wantNoStep(t, d, writing("a", "x"), api.ErrLong)
	}
	// A file that would be made, but is too long, is not made.
	d := twoFiles(5)
	wantNoStep(t, d, writing("c", full+"x"), api.ErrLong)
	wantStep(t, d, writing("c", full), api.Disk{Files: append(twoFiles(5).Files, api.File{Name: "c", Tail: full}), Fuse: 4})
}

func TestP6_3Sync(t *testing.T) {
	a, b := api.File{Name: "a", Safe: "A", Tail: "1"}, api.File{Name: "b", Safe: "B", Tail: "2"}
	wantStep(t, twoFiles(-1), syncing("a"), api.Disk{Files: []api.File{{Name: "a", Safe: "A1"}, b}, Fuse: -1})
	wantStep(t, twoFiles(2), syncing("b"), api.Disk{Files: []api.File{a, {Name: "b", Safe: "B2"}}, Fuse: 1})
	for _, f := range []api.File{{Name: "f"}, {Name: "f", Safe: "safe"}, {Name: "f", Tail: "tail"}, {Name: "f", Safe: half, Tail: half}} {
		d := api.Disk{Files: []api.File{f}, Fuse: -1}
		want := api.Disk{Files: []api.File{{Name: "f", Safe: f.Safe + f.Tail}}, Fuse: -1}
		wantStep(t, d, syncing("f"), want)
		wantStep(t, want, syncing("f"), want)
	}
	for _, name := range []string{"", "c", "aa", "A", "a ", strings.Repeat("a", 81)} {
		wantNoStep(t, twoFiles(-1), syncing(name), api.ErrNone)
		wantNoStep(t, api.Disk{Fuse: 1}, syncing(name), api.ErrNone)
	}
}

func TestP6_4Rename(t *testing.T) {
	a, b := api.File{Name: "a", Safe: "A", Tail: "1"}, api.File{Name: "b", Safe: "B", Tail: "2"}
	for _, test := range []struct {
		from, to string
		want     []api.File
	}{
		{"a", "c", []api.File{b, {Name: "c", Safe: "A", Tail: "1"}}},
		{"a", "aa", []api.File{{Name: "aa", Safe: "A", Tail: "1"}, b}},
		{"b", "0", []api.File{{Name: "0", Safe: "B", Tail: "2"}, a}},
		{"b", "c", []api.File{a, {Name: "c", Safe: "B", Tail: "2"}}},
		{"a", "b", []api.File{{Name: "b", Safe: "A", Tail: "1"}}},
		{"b", "a", []api.File{{Name: "a", Safe: "B", Tail: "2"}}},
		{"a", strings.Repeat("z", 80), []api.File{b, {Name: strings.Repeat("z", 80), Safe: "A", Tail: "1"}}},
		// A file under its own name stays.
		{"a", "a", []api.File{a, b}},
		{"b", "b", []api.File{a, b}},
	} {
		wantStep(t, twoFiles(-1), renaming(test.from, test.to), api.Disk{Files: test.want, Fuse: -1})
		wantStep(t, twoFiles(9), renaming(test.from, test.to), api.Disk{Files: test.want, Fuse: 8})
	}
	// A full disk has room for it.
	check(t, numbered(api.MaxFiles), renaming("n300", "a"))
	check(t, numbered(api.MaxFiles), renaming("n100", "z"))
	check(t, numbered(api.MaxFiles), renaming("n100", "n499"))
}

func TestP6_4RenameErrors(t *testing.T) {
	for _, to := range []string{"", "A", "a b", "\xff", strings.Repeat("b", 81)} {
		wantNoStep(t, twoFiles(-1), renaming("a", to), api.ErrForm)
		// Ahead of there being no such file.
		wantNoStep(t, twoFiles(-1), renaming("c", to), api.ErrForm)
		wantNoStep(t, twoFiles(-1), renaming(to, to), api.ErrForm)
		wantNoStep(t, twoFiles(-1), renaming(to, "a"), api.ErrNone)
	}
	for _, to := range []string{"a", "b", "c", "d"} {
		wantNoStep(t, twoFiles(-1), renaming("c", to), api.ErrNone)
		wantNoStep(t, api.Disk{Fuse: 3}, renaming("c", to), api.ErrNone)
	}
	d, _ := check(t, twoFiles(-1), renaming("a", "c"))
	if _, bad := Read(d, "a"); bad != api.ErrNone {
		t.Errorf("Read of the old name = %d", bad)
	}
	wantNoStep(t, d, renaming("a", "c"), api.ErrNone)
}

func TestP6_5Remove(t *testing.T) {
	a, b := twoFiles(0).Files[0], twoFiles(0).Files[1]
	wantStep(t, twoFiles(-1), removing("a"), api.Disk{Files: []api.File{b}, Fuse: -1})
	wantStep(t, twoFiles(1), removing("b"), api.Disk{Files: []api.File{a}})
	wantStep(t, api.Disk{Files: []api.File{a}, Fuse: 2}, removing("a"), api.Disk{Fuse: 1})
	for _, name := range []string{"", "c", "aa", "A", "a ", strings.Repeat("a", 81)} {
		wantNoStep(t, twoFiles(-1), removing(name), api.ErrNone)
		wantNoStep(t, api.Disk{Fuse: 1}, removing(name), api.ErrNone)
	}
	d := numbered(api.MaxFiles)
	for i := range api.MaxFiles {
		name := "n" + strconv.Itoa(100+i*7%api.MaxFiles)
		d, _ = check(t, d, removing(name))
		wantNoStep(t, d, removing(name), api.ErrNone)
	}
	if len(d.Files) > 0 {
		t.Errorf("left are %s", short(d))
	}
}

// What is made of one disk does not show in what else is made of it.
func TestP6_2BranchesOfOneDisk(t *testing.T) {
	start := roomy(numbered(20))
	acts := []act{
		writing("a", "x"), writing("n105", "x"), writing("z", "x"), syncing("n100"), syncing("n119"), renaming("n100", "z"),
		renaming("n119", "a"), renaming("n105", "n106"), removing("n100"), removing("n119"), saving("n110", "x"), crashing(2),
	}
	for _, first := range acts {
		middle, bad := first.do(start)
		if bad != api.OK {
			t.Fatal(first.name, bad)
		}
		before := slices.Clone(middle.Files)
		for _, second := range acts {
			check(t, start, second)
			if _, bad := second.do(middle); bad != api.OK && bad != api.ErrNone {
				t.Errorf("%s behind %s = %d", second.name, first.name, bad)
			}
			if !slices.Equal(middle.Files, before) {
				t.Fatalf("%s changed what %s had made", second.name, first.name)
			}
		}
	}
}
