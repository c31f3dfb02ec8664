package store

import (
	"cmp"
	"crypto/sha256"
	"encoding/binary"
	"encoding/hex"
	"math"
	"slices"
	"strconv"
	"strings"
	"testing"

	"cartulary/api"
)

// fuses are of every sort: none is left, some is left, and the power does not fail.
var fuses = []int{0, 1, 2, 3, 100, math.MaxInt, -1, -2, math.MinInt}

func number(n int) string {
	return string(binary.AppendUvarint(nil, uint64(n)))
}

func text(s string) string {
	return number(len(s)) + s
}

// idFor is another way to the id of bytes.
func idFor(s string) string {
	d := sha256.Sum256([]byte(s))
	return string(d[:])
}

// made is a made-up id, of which nothing is known but its name.
func made(name string) string {
	return name + strings.Repeat("=", 32-len(name))
}

// The encodings of objects, written out.

func blob(data string) string {
	return "\x01" + text(data)
}

// tree has an entry for each id.
func tree(ids ...string) string {
	s := "\x02" + number(len(ids))
	for i, id := range ids {
		s += text(strconv.Itoa(100+i)) + number(i%2) + id
	}
	return s
}

func commit(tree string, parents ...string) string {
	return "\x03" + tree + number(len(parents)) + strings.Join(parents, "") + text("me") + number(7) + text("note")
}

func tag(target string) string {
	return "\x04" + target + text("me") + text("v1")
}

// noObjects are wrong in various ways.
func noObjects() map[string]api.Errno {
	return map[string]api.Errno{
		"":                                      api.ErrForm,
		"\x80":                                  api.ErrForm,
		"\x00":                                  api.ErrKind,
		"\x05":                                  api.ErrKind,
		"junk":                                  api.ErrKind,
		"\x01":                                  api.ErrForm,
		"\x01\x01":                              api.ErrForm,
		blob("x") + "x":                         api.ErrForm,
		commit("short"):                         api.ErrForm,
		commit(made("t"), made("p"))[1:]:        api.ErrKind,
		commit(made("t"), "", made("p")):        api.ErrForm,
		tag(made("t")) + "\x00":                 api.ErrForm,
		commit(made("t"), manyIds(5)...):        api.ErrFull,
		tree(manyIds(65)...):                    api.ErrFull,
		commit(made("t"), "", ""):               api.ErrForm,
		strings.Repeat("\x01", 8193):            api.ErrLong,
		commit(made("t"), made("p"), made("p")): api.ErrTwice,
	}
}

func manyIds(many int) []string {
	var ids []string
	for i := range many {
		ids = append(ids, made("many"+strconv.Itoa(1000+i)))
	}
	return ids
}

// fileOf is another way to the name of an object's file.
func fileOf(id string) string {
	return "o" + hex.EncodeToString([]byte(id))
}

// diskOf has the files in their order.
func diskOf(fuse int, files ...api.File) api.Disk {
	files = slices.Clone(files)
	slices.SortFunc(files, func(a, b api.File) int { return cmp.Compare(a.Name, b.Name) })
	return api.Disk{Files: files, Fuse: fuse}
}

// holding is a disk of these objects, whose contents are safe.
func holding(objects ...string) api.Disk {
	var files []api.File
	for _, s := range objects {
		files = append(files, api.File{Name: fileOf(idFor(s)), Safe: s})
	}
	return diskOf(-1, files...)
}

func with(d api.Disk, more ...api.File) api.Disk {
	return diskOf(d.Fuse, append(slices.Clone(d.Files), more...)...)
}

func fused(d api.Disk, fuse int) api.Disk {
	d.Fuse = fuse
	return d
}

// strays are files that are no object's.
func strays() []api.File {
	digits := strings.Repeat("0f", 32)
	var files []api.File
	for _, name := range []string{
		"seen", "trust", "o", "oo", "o.new", "o" + digits[1:], "o" + digits + "0", "o" + digits + ".new", "p" + digits, digits, "o" + digits[1:] + "g",
		"o" + digits[1:] + ".", "o-" + digits[1:], digits + "o", "0" + digits, fileOf(idFor(blob("x"))) + ".new", "x" + fileOf(idFor(blob("x"))),
	} {
		files = append(files, api.File{Name: name, Safe: blob("x")})
	}
	return files
}

func numbered(many int) []api.File {
	var files []api.File
	for i := range many {
		files = append(files, api.File{Name: "n" + strconv.Itoa(1000+i), Safe: "content"})
	}
	return files
}

// spoilt are disks that aren't valid, each of which has these files.
func spoilt(files []api.File) []api.Disk {
	first := slices.MinFunc(files, func(a, b api.File) int { return cmp.Compare(a.Name, b.Name) })
	long := strings.Repeat("x", api.MaxFile+1)
	var disks []api.Disk
	for _, fuse := range []int{-1, 0, 5} {
		d := diskOf(fuse, files...)
		disks = append(disks,
			api.Disk{Files: append(slices.Clone(d.Files), first), Fuse: fuse},
			api.Disk{Files: append([]api.File{{Name: "z"}}, d.Files...), Fuse: fuse},
			with(d, api.File{Name: "A"}), with(d, api.File{Name: ""}), with(d, api.File{Name: "z", Safe: long}),
			with(d, api.File{Name: "z", Safe: long[1:], Tail: "x"}), with(d, numbered(api.MaxFiles)...))
	}
	return disks
}

// roomy is the disk with spare room behind its files, in which another lies.
func roomy(d api.Disk) api.Disk {
	files := append(slices.Clone(d.Files), api.File{Name: "spare"})
	return api.Disk{Files: files[:len(d.Files)], Fuse: d.Fuse}
}

func sameDisk(a, b api.Disk) bool {
	return slices.Equal(a.Files, b.Files) && a.Fuse == b.Fuse
}

// short is a disk as a failing test tells it.
func short(d api.Disk) string {
	s := "fuse " + strconv.Itoa(d.Fuse) + ", " + strconv.Itoa(len(d.Files)) + " files"
	for _, f := range d.Files[:min(len(d.Files), 5)] {
		cut := func(s string) string { return strconv.Quote(s[:min(len(s), 30)]) }
		s += ", " + cut(f.Name) + " " + cut(f.Safe) + " " + cut(f.Tail)
	}
	return s
}

// wantKept asks that neither the files of a roomy disk nor what lies behind them have changed.
func wantKept(t *testing.T, given, before api.Disk) {
	t.Helper()
	all := len(before.Files) + 1
	if want := roomy(before); !slices.Equal(given.Files[:all], want.Files[:all]) {
		t.Errorf("the argument %s became %s", short(before), short(given))
	}
}

func wantStrings(t *testing.T, what string, got, want []string) {
	t.Helper()
	if !slices.Equal(got, want) {
		t.Errorf("%s = %.400q, want %.400q", what, got, want)
	}
}
