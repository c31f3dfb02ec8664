package disk

import (
	"math"
	"slices"
	"strconv"
	"strings"
	"testing"

	"cartulary/api"
)

// half and full are contents of half as many bytes as a file may have, and of just as many.
var (
	half = strings.Repeat("half", api.MaxFile/8)
	full = half + half
)

// fuses are of every sort: none is left, some is left, and the power does not fail.
var fuses = []int{0, 1, 2, 100, math.MaxInt, -1, -2, math.MinInt}

func sameDisk(a, b api.Disk) bool {
	return slices.Equal(a.Files, b.Files) && a.Fuse == b.Fuse
}

// short is a disk as a failing test tells it.
func short(d api.Disk) string {
	s := "fuse " + strconv.Itoa(d.Fuse) + ", " + strconv.Itoa(len(d.Files)) + " files"
	for _, f := range d.Files[:min(len(d.Files), 5)] {
		cut := func(s string) string { return strconv.Quote(s[:min(len(s), 40)]) }
		s += ", " + cut(f.Name) + " " + cut(f.Safe) + " " + cut(f.Tail)
	}
	return s
}

// numbered is a disk of so many files, whose names are n100, n101 and so on; each has another content.
func numbered(many int) api.Disk {
	d := api.Disk{Fuse: -1}
	for i := range many {
		n := strconv.Itoa(100 + i)
		d.Files = append(d.Files, api.File{Name: "n" + n, Safe: "safe" + n, Tail: "tail" + n})
	}
	return d
}

// wrongDisks are not valid, each for another reason.
func wrongDisks() []api.Disk {
	a, b, c := api.File{Name: "a", Safe: "1"}, api.File{Name: "b", Tail: "2"}, api.File{Name: "c"}
	list := [][]api.File{
		{b, a}, {a, a}, {a, c, b}, {b, a, c}, {a, b, b}, {a, b, c, a}, {{Name: "a"}, {Name: "a.b"}, {Name: "a-b"}},
		{{Name: ""}}, {{Name: ""}, a}, {{Name: "A"}, a}, {a, {Name: "b_"}, c}, {a, b, {Name: "c/"}},
		{a, {Name: "b" + strings.Repeat("b", 80)}}, {{Name: "\xc3\xa4"}}, {{Name: " "}}, {{Name: "\x00"}},
		{{Name: "a", Safe: full + "x"}}, {{Name: "a", Tail: full + "x"}}, {{Name: "a", Safe: full, Tail: "x"}},
		{{Name: "a", Safe: "x", Tail: full}, b}, {a, {Name: "b", Safe: half + "x", Tail: half}, c},
		{a, b, {Name: "c", Safe: full, Tail: full}},
		numbered(api.MaxFiles + 1).Files, numbered(2 * api.MaxFiles).Files,
	}
	var disks []api.Disk
	for _, files := range list {
		for _, fuse := range []int{-1, 0, 3} {
			disks = append(disks, api.Disk{Files: files, Fuse: fuse})
		}
	}
	return disks
}

// rightDisks are valid, up to what may just be.
func rightDisks() []api.Disk {
	a, b, c := api.File{Name: "a", Safe: "1"}, api.File{Name: "b", Tail: "2"}, api.File{Name: "c"}
	list := [][]api.File{
		nil, {}, {a}, {b}, {a, b, c}, {{Name: "-"}, {Name: "."}, {Name: "0"}, {Name: "z"}},
		{{Name: "a"}, {Name: "a-b"}, {Name: "a.b"}, {Name: "a0"}, {Name: "aa"}}, {{Name: strings.Repeat("z", 80)}},
		{{Name: "a", Safe: full}}, {{Name: "a", Tail: full}}, {{Name: "a", Safe: half, Tail: half}, {Name: "b", Safe: full[1:], Tail: "x"}},
		{{Name: "a", Safe: "\x00\xff", Tail: "\n"}}, numbered(api.MaxFiles - 1).Files, numbered(api.MaxFiles).Files,
	}
	var disks []api.Disk
	for _, files := range list {
		for _, fuse := range fuses {
			disks = append(disks, api.Disk{Files: files, Fuse: fuse})
		}
	}
	return disks
}

func TestP6_1Named(t *testing.T) {
	const letters = "abcdefghijklmnopqrstuvwxyz0123456789.-"
	long := strings.Repeat(letters, 3)
	for c := range 256 {
		s := string([]byte{byte(c)})
		want := strings.Contains(letters, s)
		// Alone, and at each place of a short name and of the longest one.
		for _, name := range []string{"", "abc", long[:79]} {
			for i := range len(name) + 1 {
				if got := Named(name[:i] + s + name[i:]); got != want {
					t.Errorf("Named(%q) = %t", name[:i]+s+name[i:], got)
				}
			}
		}
	}
	for n := range len(long) {
		if got := Named(long[:n]); got != (n >= 1 && n <= 80) {
			t.Errorf("Named of %d bytes = %t", n, got)
		}
	}
	for _, s := range []string{"\u00e4", "a\u00e4", "\u0660", "\u017f", "\xff", "a b", "a/b", "..\\", "a\n", "a\x00", strings.Repeat("a", 1<<20)} {
		if Named(s) {
			t.Errorf("Named(%.100q)", s)
		}
	}
	for _, s := range []string{"a.b", ".", "..", "-", ".new", "o" + strings.Repeat("0f", 32) + ".new"} {
		if !Named(s) {
			t.Errorf("not Named(%q)", s)
		}
	}
}

func TestP6_1Good(t *testing.T) {
	if !Good(api.Disk{}) {
		t.Error("the zero value is not valid")
	}
	for _, d := range rightDisks() {
		if !Good(d) {
			t.Errorf("not Good: %s", short(d))
		}
	}
	for _, d := range wrongDisks() {
		if Good(d) {
			t.Errorf("Good: %s", short(d))
		}
	}
}

// Whatever is wrong is wrong at each place of the list.
func TestP6_1GoodAtEachPlace(t *testing.T) {
	d := numbered(50)
	for i := range d.Files {
		for _, wrong := range []api.File{
			{}, {Name: d.Files[i].Name + "_"}, {Name: "n0"}, {Name: "n9"}, {Name: d.Files[(i+1)%50].Name},
			{Name: d.Files[i].Name, Safe: full, Tail: "x"}, {Name: d.Files[i].Name, Tail: full + "x"},
		} {
			// The first file may have any lesser name, and the last one any greater one.
			if i == 0 && wrong.Name == "n0" || i == 49 && wrong.Name == "n9" {
				continue
			}
			files := slices.Clone(d.Files)
			files[i] = wrong
			if Good(api.Disk{Files: files}) {
				t.Errorf("Good with file %d = %q", i, wrong.Name)
			}
		}
		files := slices.Clone(d.Files)
		files[i].Safe, files[i].Tail = half, half
		if !Good(api.Disk{Files: files}) {
			t.Errorf("not Good with a full file %d", i)
		}
	}
}

func TestP6_6Read(t *testing.T) {
	d := numbered(api.MaxFiles)
	for i, f := range d.Files {
		n := strconv.Itoa(100 + i)
		if s, bad := Read(d, f.Name); s != "safe"+n+"tail"+n || bad != api.OK {
			t.Errorf("Read(%q) = %q, %d", f.Name, s, bad)
		}
		for _, name := range []string{f.Name + "-", f.Name[:3], "N" + n, f.Name + "\x00"} {
			if s, bad := Read(d, name); s != "" || bad != api.ErrNone {
				t.Errorf("Read(%q) = %q, %d", name, s, bad)
			}
		}
	}
	for _, f := range []api.File{{Name: "b"}, {Name: "b", Safe: "s"}, {Name: "b", Tail: "t"}, {Name: "b", Safe: "s\x00", Tail: "\xfft"}, {Name: "b", Safe: half, Tail: half}} {
		for _, fuse := range fuses {
			d := api.Disk{Files: []api.File{{Name: "a", Safe: "other"}, f, {Name: "c", Tail: "other"}}, Fuse: fuse}
			if s, bad := Read(d, "b"); s != f.Safe+f.Tail || bad != api.OK {
				t.Errorf("Read from %s = %.100q, %d", short(d), s, bad)
			}
		}
	}
}

func TestP6_6ReadErrors(t *testing.T) {
	for _, name := range []string{"", "a", "b", "c", "A", "n100", "zz", strings.Repeat("x", 81)} {
		for _, d := range wrongDisks() {
			if s, bad := Read(d, name); s != "" || bad != api.ErrRange {
				t.Errorf("Read(%q) from %s = %.100q, %d", name, short(d), s, bad)
			}
		}
		if s, bad := Read(api.Disk{}, name); s != "" || bad != api.ErrNone {
			t.Errorf("Read(%q) from no files = %q, %d", name, s, bad)
		}
	}
}

func TestP6_7Crash(t *testing.T) {
	for _, test := range []struct {
		keep int
		want [4]string
	}{
		{0, [4]string{"", "safe", "", "safe"}},
		{1, [4]string{"", "safe", "t", "safet"}},
		{3, [4]string{"", "safe", "tai", "safetai"}},
		{4, [4]string{"", "safe", "tail", "safetail"}},
		{5, [4]string{"", "safe", "tail", "safetail"}},
		{math.MaxInt, [4]string{"", "safe", "tail", "safetail"}},
	} {
		for _, fuse := range fuses {
			d := api.Disk{Fuse: fuse, Files: []api.File{
				{Name: "a"}, {Name: "b", Safe: "safe"}, {Name: "c", Tail: "tail"}, {Name: "d", Safe: "safe", Tail: "tail"},
			}}
			want := api.Disk{Fuse: -1}
			for i, f := range d.Files {
				want.Files = append(want.Files, api.File{Name: f.Name, Safe: test.want[i]})
			}
			if got, bad := Crash(d, test.keep); !sameDisk(got, want) || bad != api.OK {
				t.Errorf("Crash(%s, %d) = %s, %d", short(d), test.keep, short(got), bad)
			}
		}
	}
}

func TestP6_7CrashOfAnyDisk(t *testing.T) {
	for _, d := range rightDisks() {
		for _, keep := range []int{0, 1, 5, 1000, api.MaxFile - 1, api.MaxFile, math.MaxInt} {
			want := api.Disk{Fuse: -1}
			for _, f := range d.Files {
				kept := f.Tail
				if keep < len(kept) {
					kept = kept[:keep]
				}
				want.Files = append(want.Files, api.File{Name: f.Name, Safe: f.Safe + kept})
			}
			before := slices.Clone(d.Files)
			if got, bad := Crash(d, keep); !sameDisk(got, want) || bad != api.OK {
				t.Errorf("Crash(%s, %d) = %s, %d", short(d), keep, short(got), bad)
			}
			if !slices.Equal(before, d.Files) {
				t.Errorf("Crash(%s, %d) changed its files", short(d), keep)
			}
		}
	}
}

func TestP6_7CrashErrors(t *testing.T) {
	for _, d := range wrongDisks() {
		for _, keep := range []int{0, 1, -1, math.MaxInt} {
			if got, bad := Crash(d, keep); !sameDisk(got, d) || bad != api.ErrRange {
				t.Errorf("Crash(%s, %d) = %s, %d", short(d), keep, short(got), bad)
			}
		}
	}
	for _, d := range rightDisks() {
		for _, keep := range []int{-1, -2, math.MinInt} {
			if got, bad := Crash(d, keep); !sameDisk(got, d) || bad != api.ErrRange {
				t.Errorf("Crash(%s, %d) = %s, %d", short(d), keep, short(got), bad)
			}
		}
	}
}
