package disk

import (
	"math/rand"
	"slices"
	"strings"
	"testing"

	"cartulary/api"
)

func TestP6_8Save(t *testing.T) {
	a, b := api.File{Name: "a", Safe: "A", Tail: "1"}, api.File{Name: "b", Safe: "B", Tail: "2"}
	left := api.File{Name: "a.new", Safe: "left", Tail: "over"}
	for _, s := range []string{"", "new", "\x00\xff", full} {
		saved := api.File{Name: "a", Safe: s}
		for _, test := range []struct {
			before, after []api.File
			steps         int
		}{
			{nil, []api.File{saved}, 3},
			{[]api.File{b}, []api.File{saved, b}, 3},
			{[]api.File{a, b}, []api.File{saved, b}, 3},
			{[]api.File{left}, []api.File{saved}, 4},
			{[]api.File{a, left, b}, []api.File{saved, b}, 4},
			{[]api.File{a, {Name: "a.new"}, b}, []api.File{saved, b}, 4},
			{[]api.File{a, {Name: "a.new.new"}, b}, []api.File{saved, {Name: "a.new.new"}, b}, 3},
		} {
			wantStep(t, api.Disk{Files: test.before, Fuse: -1}, saving("a", s), api.Disk{Files: test.after, Fuse: -1})
			wantStep(t, api.Disk{Files: test.before, Fuse: -7}, saving("a", s), api.Disk{Files: test.after, Fuse: -7})
			for more := range 3 {
				wantStep(t, api.Disk{Files: test.before, Fuse: test.steps + more}, saving("a", s), api.Disk{Files: test.after, Fuse: more})
			}
			for fuse := range test.steps {
				d := api.Disk{Files: test.before, Fuse: fuse}
				if got, bad := check(t, d, saving("a", s)); got.Fuse != 0 || bad != api.ErrPower {
					t.Errorf("Save on %s = %s, %d", short(d), short(got), bad)
				}
			}
		}
	}
}

// The disks on which the power leaves a save, one behind each step.
func TestP6_8SavePiecemeal(t *testing.T) {
	old, left := api.File{Name: "f", Safe: "old"}, api.File{Name: "f.new", Safe: "left"}
	for fuse, want := range [][]api.File{
		{old, left},
		{old},
		{old, {Name: "f.new", Tail: "new"}},
		{old, {Name: "f.new", Safe: "new"}},
		{{Name: "f", Safe: "new"}},
	} {
		d := api.Disk{Files: []api.File{old, left}, Fuse: fuse}
		got, bad := check(t, d, saving("f", "new"))
		if !sameDisk(got, api.Disk{Files: want}) || (bad == api.OK) != (fuse == 4) || bad != api.OK && bad != api.ErrPower {
			t.Errorf("Save with fuse %d = %s, %d", fuse, short(got), bad)
		}
	}
}

// Whenever the power fails and whatever is kept, the file has all of its old content or all of the new one; and the next
// save is none the worse for it.
func TestP6_8SaveIsAtomic(t *testing.T) {
	for _, old := range []string{"", "old content", strings.Repeat("long", 1000)} {
		for _, left := range []bool{false, true} {
			for fuse := range 6 {
				for _, keep := range []int{0, 1, 3, 10, 100_000} {
					d := api.Disk{Files: []api.File{{Name: "f", Safe: old}}, Fuse: fuse}
					if left {
						d.Files = append(d.Files, api.File{Name: "f.new", Safe: "le", Tail: "ft"})
					}
					d, bad := Save(d, "f", "new content")
					d, _ = Crash(d, keep)
					want := old
					if bad == api.OK {
						want = "new content"
					}
					if s, _ := Read(d, "f"); s != want {
						t.Errorf("fuse %d, keep %d: %.50q instead of %.50q", fuse, keep, s, want)
					}
					if (bad == api.OK) != (fuse >= 4 || fuse == 3 && !left) {
						t.Errorf("fuse %d, keep %d: %d", fuse, keep, bad)
					}
					want = "newer content"
					if d, bad = Save(d, "f", want); bad != api.OK || !slices.Equal(d.Files, []api.File{{Name: "f", Safe: want}}) {
						t.Errorf("fuse %d, keep %d, saved again: %s, %d", fuse, keep, short(d), bad)
					}
				}
			}
		}
	}
}

func TestP6_8SaveNames(t *testing.T) {
	longest := strings.Repeat("x", 76)
	wantStep(t, api.Disk{Fuse: -1}, saving(longest, "s"), api.Disk{Files: []api.File{{Name: longest, Safe: "s"}}, Fuse: -1})
	wantStep(t, api.Disk{Fuse: -1}, saving("a.new", "s"), api.Disk{Files: []api.File{{Name: "a.new", Safe: "s"}}, Fuse: -1})
	for _, name := range []string{"", "A", "a b", "\xff", longest + "x", longest + "xxxx", longest + "xxxxx", strings.Repeat("x", 1<<16)} {
		// Ahead of the power and of all that the steps find wrong.
		for _, fuse := range []int{-1, 0, 1, 10} {
			wantNoStep(t, twoFiles(fuse), saving(name, "s"), api.ErrForm)
			wantNoStep(t, twoFiles(fuse), saving(name, full+"x"), api.ErrForm)
			wantNoStep(t, api.Disk{Files: numbered(api.MaxFiles).Files, Fuse: fuse}, saving(name, "s"), api.ErrForm)
		}
	}
}

// What the steps find wrong behind one that went well leaves the disk as it is then.
func TestP6_8SaveErrorsOfSteps(t *testing.T) {
	crowded := numbered(api.MaxFiles)
	wantNoStep(t, crowded, saving("n100", "s"), api.ErrFull)
	wantNoStep(t, crowded, saving("a", full+"x"), api.ErrFull)
	wantNoStep(t, twoFiles(2), saving("a", full+"x"), api.ErrLong)
	wantNoStep(t, twoFiles(2), saving("c", full+"x"), api.ErrLong)
	check(t, numbered(api.MaxFiles-1), saving("a", "s"))
	// With the file that is removed first there is room for another one.
	crowded = numbered(api.MaxFiles - 1)
	crowded.Files = slices.Insert(crowded.Files, 0, api.File{Name: "a.new"})
	got, bad := check(t, crowded, saving("a", "s"))
	if len(got.Files) != api.MaxFiles || got.Files[0] != (api.File{Name: "a", Safe: "s"}) || bad != api.OK {
		t.Errorf("Save = %s, %d", short(got), bad)
	}
	d := api.Disk{Files: []api.File{{Name: "a", Safe: "old"}, {Name: "a.new"}}, Fuse: 3}
	got, bad = check(t, d, saving("a", full+"x"))
	if !sameDisk(got, api.Disk{Files: d.Files[:1], Fuse: 2}) || bad != api.ErrLong {
		t.Errorf("Save on %s = %s, %d", short(d), short(got), bad)
	}
}

// chanceAct is mostly one that goes well.
func chanceAct(source *rand.Rand) act {
	name := func() string {
		if source.Intn(20) == 0 {
			return names[source.Intn(len(names))]
		}
		return "abcdefgh"[source.Intn(8):][:1] + []string{"", "", ".new"}[source.Intn(3)]
	}
	content := strings.Repeat("0123456789"[source.Intn(10):], source.Intn(3))
	switch source.Intn(12) {
	case 0, 1, 2, 3:
		return writing(name(), content)
	case 4, 5:
		return syncing(name())
	case 6, 7:
		return renaming(name(), name())
	case 8:
		return removing(name())
	case 9:
		return crashing(source.Intn(15) - 1)
	}
	return saving(name(), content)
}

func TestP6_2ActsByChance(t *testing.T) {
	source := rand.New(rand.NewSource(70))
	seen := map[api.Errno]int{}
	for range 500 {
		d := api.Disk{Fuse: source.Intn(40) - 1}
		for range 60 {
			var bad api.Errno
			d, bad = check(t, d, chanceAct(source))
			seen[bad]++
			for _, name := range []string{"a", "b.new"} {
				m := slowOf(d)
				s, bad := Read(d, name)
				if s != m.files[name].safe+m.files[name].tail || (bad == api.OK) != m.has(name) {
					t.Errorf("Read(%q) from %s = %q, %d", name, short(d), s, bad)
				}
			}
		}
	}
	for _, bad := range []api.Errno{api.OK, api.ErrPower, api.ErrForm, api.ErrNone, api.ErrRange} {
		if seen[bad] < 100 {
			t.Errorf("only %d with %d", seen[bad], bad)
		}
	}
}

func FuzzP6_2Acts(f *testing.F) {
	f.Add("a", "b", "one", "two", 5, 1)
	f.Add("a.new", "a", "", "x", -1, 0)
	f.Fuzz(func(t *testing.T, first, second, s, more string, fuse, keep int) {
		d := api.Disk{Fuse: fuse}
		for _, a := range []act{
			writing(first, s), syncing(first), writing(first, more), writing(second, s), saving(second, more),
			renaming(first, second), saving(first, s), removing(second), crashing(keep), saving(second, s),
		} {
			d, _ = check(t, d, a)
		}
	})
}
