package store

import (
	"math/rand"
	"slices"
	"strconv"
	"strings"
	"testing"

	"cartulary/api"
	"cartulary/disk"
)

func wantGet(t *testing.T, d api.Disk, id, want string, wantBad api.Errno) {
	t.Helper()
	given := roomy(d)
	if got, bad := Get(given, id); got != want || bad != wantBad {
		t.Errorf("Get(%s, %q) = %.100q, %d, want %.100q, %d", short(d), id, got, bad, want, wantBad)
	}
	wantKept(t, given, d)
}

// someObjects are of every kind, from the shortest one to one of MaxObject bytes.
func someObjects() []string {
	longest := "\x04" + made("t") + text(strings.Repeat("w", api.MaxText)) + text(strings.Repeat("n", api.MaxObject-33-2-api.MaxText-2))
	return []string{
		blob(""), blob("x"), blob("\x00\xff"), blob(strings.Repeat("long", 1000)), tree(), tree(made("a")), tree(manyIds(api.MaxEntries)...),
		commit(made("t")), commit(made("t"), made("p")), commit(made("t"), manyIds(api.MaxParents)...), tag(made("t")), longest,
	}
}

func TestP7_1Get(t *testing.T) {
	objects := someObjects()
	for _, fuse := range fuses {
		d := fused(with(holding(objects...), strays()...), fuse)
		for _, s := range objects {
			wantGet(t, d, idFor(s), s, api.OK)
		}
	}
	// However much of the content is safe.
	for _, s := range []string{blob("x"), tag(made("t"))} {
		for n := range len(s) + 1 {
			wantGet(t, diskOf(-1, api.File{Name: fileOf(idFor(s)), Safe: s[:n], Tail: s[n:]}, api.File{Name: "z"}), idFor(s), s, api.OK)
		}
	}
}

// Get asks for the id of the content, not for what the content is.
func TestP7_1GetOfNoObject(t *testing.T) {
	for s := range noObjects() {
		wantGet(t, holding(s, blob("x")), idFor(s), s, api.OK)
	}
	long := strings.Repeat("x", api.MaxFile)
	wantGet(t, holding(long), idFor(long), long, api.OK)
}

func TestP7_1GetOfNoId(t *testing.T) {
	x := blob("x")
	for _, id := range []string{"", "x", fileOf(idFor(x)), fileOf(idFor(x))[1:], idFor(x)[1:], idFor(x) + "x", idFor(x) + idFor(x), "seen", strings.Repeat("i", 31), strings.Repeat("i", 33)} {
		wantGet(t, with(holding(x), strays()...), id, "", api.ErrForm)
		wantGet(t, api.Disk{}, id, "", api.ErrForm)
		// Ahead of the disk not being valid.
		for _, d := range spoilt(holding(x).Files) {
			wantGet(t, d, id, "", api.ErrForm)
		}
	}
}

func TestP7_1GetFromWrongDisks(t *testing.T) {
	x := blob("x")
	wrongSum := api.File{Name: fileOf(idFor("other")), Safe: x}
	for _, d := range spoilt(with(holding(x), wrongSum).Files) {
		// Ahead of there being no file, and of the sum.
		for _, id := range []string{idFor(x), idFor("other"), idFor("none")} {
			wantGet(t, d, id, "", api.ErrRange)
		}
	}
}

func TestP7_1GetOfNothing(t *testing.T) {
	x := blob("x")
	for _, d := range []api.Disk{{}, {Fuse: -1}, holding(blob("y"), tree()), diskOf(-1, strays()...), diskOf(0, numbered(api.MaxFiles)...)} {
		wantGet(t, d, idFor(x), "", api.ErrNone)
	}
	// The name is o and all of the lower-case digits, and nothing more.
	name := fileOf(idFor(x))
	for _, other := range []string{name[1:], name[:64], name + "0", "0" + name, name + ".new", "p" + name[1:], "oo" + name[1:]} {
		wantGet(t, diskOf(-1, api.File{Name: other, Safe: x}), idFor(x), "", api.ErrNone)
	}
}

func TestP7_1GetOfOtherContent(t *testing.T) {
	x, y := blob("x"), blob("y")
	for _, content := range []string{"", y, x[1:], x + "\x00", x + x, idFor(x), x[:len(x)-1], "\x01\x01X"} {
		for n := range len(content) + 1 {
			d := diskOf(-1, api.File{Name: fileOf(idFor(x)), Safe: content[:n], Tail: content[n:]}, api.File{Name: fileOf(idFor(y)), Safe: y})
			wantGet(t, d, idFor(x), "", api.ErrSum)
			wantGet(t, d, idFor(y), y, api.OK)
		}
	}
	// Another bit at any place of the content, and at any place of the id.
	s := commit(made("t"), made("p"))
	for i := range 8 * len(s) {
		b := []byte(s)
		b[i/8] ^= 1 << (i % 8)
		wantGet(t, diskOf(-1, api.File{Name: fileOf(idFor(s)), Safe: string(b)}), idFor(s), "", api.ErrSum)
	}
	for i := range 8 * 32 {
		id := []byte(idFor(s))
		id[i/8] ^= 1 << (i % 8)
		wantGet(t, diskOf(-1, api.File{Name: fileOf(string(id)), Safe: s}), string(id), "", api.ErrSum)
	}
}

// wantPut also asks that there is no id with an error.
func wantPut(t *testing.T, d api.Disk, s string, want api.Disk, wantBad api.Errno) {
	t.Helper()
	wantId := ""
	if wantBad == api.OK {
		wantId = idFor(s)
	}
	given := roomy(d)
	if got, id, bad := Put(given, s); !sameDisk(got, want) || id != wantId || bad != wantBad {
		t.Errorf("Put(%s, %.100q) = %s, %q, %d, want %s, %q, %d", short(d), s, short(got), id, bad, short(want), wantId, wantBad)
	}
	wantKept(t, given, d)
}

func TestP7_2Put(t *testing.T) {
	for _, s := range someObjects() {
		saved := api.File{Name: fileOf(idFor(s)), Safe: s}
		wantPut(t, api.Disk{Fuse: -1}, s, diskOf(-1, saved), api.OK)
		wantPut(t, api.Disk{Fuse: -5}, s, diskOf(-5, saved), api.OK)
		wantPut(t, diskOf(7, strays()[0], strays()[1]), s, diskOf(4, strays()[0], strays()[1], saved), api.OK)
		d, id, _ := Put(with(holding(blob("other")), strays()...), s)
		wantGet(t, d, id, s, api.OK)
		wantGet(t, d, idFor(blob("other")), blob("other"), api.OK)
	}
	// What a save that the power cut off has left is gone.
	x := blob("x")
	left := api.File{Name: fileOf(idFor(x)) + ".new", Safe: "le", Tail: "ft"}
	wantPut(t, diskOf(4, left), x, holdingWith(0, x), api.OK)
	wantPut(t, diskOf(3, left), x, diskOf(0, api.File{Name: left.Name, Safe: x}), api.ErrPower)
}

func holdingWith(fuse int, objects ...string) api.Disk {
	return fused(holding(objects...), fuse)
}

// An object that is there already costs no step, so that it needs no power, and what isn't safe of it stays so.
func TestP7_2PutOfWhatIsThere(t *testing.T) {
	objects := someObjects()
	for _, fuse := range fuses {
		for _, s := range objects {
			d := fused(with(holding(objects...), strays()...), fuse)
			wantPut(t, d, s, d, api.OK)
			for _, n := range []int{0, 1, len(s) - 1} {
				d = diskOf(fuse, api.File{Name: fileOf(idFor(s)), Safe: s[:n], Tail: s[n:]}, api.File{Name: "z"})
				wantPut(t, d, s, d, api.OK)
			}
		}
	}
	full := with(holding(blob("x")), numbered(api.MaxFiles-1)...)
	wantPut(t, full, blob("x"), full, api.OK)
	d, _, _ := Put(api.Disk{Fuse: 3}, blob("x"))
	wantPut(t, d, blob("x"), d, api.OK)
}

// A file of that name with another content is replaced.
func TestP7_2PutOverOtherContent(t *testing.T) {
	x := blob("x")
	for _, content := range []string{"", "junk", x[1:], x + "x", blob("y"), strings.Repeat("x", api.MaxFile)} {
		for _, n := range []int{0, len(content) / 2, len(content)} {
			old := api.File{Name: fileOf(idFor(x)), Safe: content[:n], Tail: content[n:]}
			wantPut(t, diskOf(3, old, api.File{Name: "z"}), x, with(holdingWith(0, x), api.File{Name: "z"}), api.OK)
			wantPut(t, diskOf(0, old), x, diskOf(0, old), api.ErrPower)
			wantPut(t, diskOf(2, old), x, diskOf(0, old, api.File{Name: old.Name + ".new", Safe: x}), api.ErrPower)
		}
	}
}

func TestP7_2PutOfNoObject(t *testing.T) {
	for s, want := range noObjects() {
		disks := []api.Disk{{}, {Fuse: -1}, holding(blob("x"), s), diskOf(-1, numbered(api.MaxFiles)...)}
		// Ahead of the power, and of the disk not being valid.
		disks = append(disks, holdingWith(0, blob("x")), holdingWith(1, s))
		for _, d := range append(disks, spoilt(holding(blob("x")).Files)...) {
			wantPut(t, d, s, d, want)
		}
	}
}

func TestP7_2PutErrorsOfSave(t *testing.T) {
	x, y := blob("x"), blob("y")
	for _, d := range spoilt(holding(x).Files) {
		wantPut(t, d, x, d, api.ErrRange)
		wantPut(t, d, y, d, api.ErrRange)
	}
	full := diskOf(-1, numbered(api.MaxFiles)...)
	wantPut(t, full, x, full, api.ErrFull)
	wantPut(t, fused(full, 0), x, fused(full, 0), api.ErrPower)
	almost := diskOf(-1, numbered(api.MaxFiles-1)...)
	wantPut(t, almost, x, with(holding(x), almost.Files...), api.OK)
	// The power fails behind each step of the save; the disk is as it is then.
	name := fileOf(idFor(x))
	for _, test := range []struct {
		before api.Disk
		steps  int
	}{
		{holding(), 3},
		{holding(y), 3},
		{with(holding(y), api.File{Name: name, Safe: "other"}), 3},
		{with(holding(y), api.File{Name: name + ".new", Tail: "left"}), 4},
		{with(holding(y), api.File{Name: name, Tail: "other"}, api.File{Name: name + ".new"}), 4},
	} {
		for fuse := range 6 {
			d := fused(test.before, fuse)
			want, wantBad := disk.Save(d, name, x)
			if (wantBad == api.OK) != (fuse >= test.steps) {
				t.Errorf("a save takes other than %d steps on %s", test.steps, short(d))
			}
			wantPut(t, d, x, want, wantBad)
		}
	}
}

// Whenever the power fails, what was put is there, and what was not is there wholly or not at all.
func TestP7_2PutAndCrash(t *testing.T) {
	var objects []string
	for i := range 5 {
		objects = append(objects, blob("object "+strconv.Itoa(i)))
	}
	for fuse := range 17 {
		for _, keep := range []int{0, 1, 5, 100} {
			d := api.Disk{Fuse: fuse}
			put := 0
			for _, s := range objects {
				var bad api.Errno
				if d, _, bad = Put(d, s); bad != api.OK {
					break
				}
				put++
			}
			d, _ = disk.Crash(d, keep)
			if put != min(5, fuse/3) {
				t.Errorf("fuse %d: %d were put", fuse, put)
			}
			for i, s := range objects {
				if i < put {
					wantGet(t, d, idFor(s), s, api.OK)
				} else {
					wantGet(t, d, idFor(s), "", api.ErrNone)
				}
			}
			for _, s := range objects {
				d, _, _ = Put(d, s)
			}
			wantAll(t, d, objects...)
		}
	}
}

// wantAll asks Ids and All for just these objects.
func wantAll(t *testing.T, d api.Disk, objects ...string) {
	t.Helper()
	var ids, all []string
	contents := map[string]string{}
	for _, s := range objects {
		ids = append(ids, idFor(s))
		contents[idFor(s)] = s
	}
	slices.Sort(ids)
	for _, id := range ids {
		all = append(all, contents[id])
	}
	given := roomy(d)
	wantStrings(t, "Ids of "+short(d), Ids(given), ids)
	wantStrings(t, "All of "+short(d), All(given), all)
	wantKept(t, given, d)
}

func TestP7_3Ids(t *testing.T) {
	wantAll(t, api.Disk{})
	wantAll(t, api.Disk{Fuse: -1})
	objects := someObjects()
	for n := range len(objects) + 1 {
		for _, fuse := range fuses {
			wantAll(t, fused(holding(objects[:n]...), fuse), objects[:n]...)
			wantAll(t, fused(with(holding(objects[:n]...), strays()...), fuse), objects[:n]...)
		}
	}
	x := blob("x")
	wantAll(t, diskOf(-1, api.File{Name: fileOf(idFor(x)), Tail: x}), x)
	wantAll(t, diskOf(-1, api.File{Name: fileOf(idFor(x)), Safe: x[:1], Tail: x[1:]}), x)
}

func TestP7_3IdsOfManyFiles(t *testing.T) {
	var objects []string
	d := api.Disk{Fuse: -1}
	for i := range api.MaxFiles {
		s := blob("object " + strconv.Itoa(i))
		objects = append(objects, s)
		d, _, _ = Put(d, s)
	}
	// Put has no room for its new file when all others are there.
	wantAll(t, d, objects...)
	wantAll(t, holding(objects...), objects...)
	ids := Ids(d)
	if len(ids) != api.MaxFiles || !slices.IsSorted(ids) || ids[0] > "\x08" || ids[len(ids)-1] < "\xf0" {
		t.Errorf("%d ids: %q", len(ids), ids)
	}
	wantAll(t, with(holding(objects...), api.File{Name: "one-too-many"}))
}

func TestP7_3IdsWithoutOtherContent(t *testing.T) {
	objects := someObjects()
	d := holding(objects...)
	for i := range d.Files {
		for _, wrong := range []api.File{
			{}, {Safe: "junk"}, {Safe: d.Files[i].Safe[1:]}, {Safe: d.Files[i].Safe + "x"}, {Safe: d.Files[i].Safe, Tail: "x"}, {Safe: d.Files[(i+1)%len(d.Files)].Safe},
		} {
			wrong.Name = d.Files[i].Name
			changed := api.Disk{Files: slices.Clone(d.Files), Fuse: -1}
			changed.Files[i] = wrong
			rest := slices.DeleteFunc(slices.Clone(objects), func(s string) bool { return fileOf(idFor(s)) == wrong.Name })
			wantAll(t, changed, rest...)
		}
	}
}

// Bytes that are no object are none of those that are there, though their sum is right and Get returns them.
func TestP7_3IdsWithoutNoObjects(t *testing.T) {
	for s := range noObjects() {
		wantAll(t, holding(s))
		wantAll(t, holding(s, blob("x"), tree()), blob("x"), tree())
	}
}

func TestP7_3IdsOfWrongDisks(t *testing.T) {
	for _, d := range spoilt(holding(someObjects()...).Files) {
		wantAll(t, d)
	}
	wantAll(t, api.Disk{Files: []api.File{{Name: fileOf(idFor(blob("x"))), Safe: blob("x")}, {Name: fileOf(idFor(blob("x"))), Safe: blob("x")}}})
}

// What the results have is the caller's.
func TestP7_3ResultsAreNew(t *testing.T) {
	d := holding(blob("x"), blob("y"))
	for _, l := range [][]string{Ids(d), All(d)} {
		l[0] = "changed"
		_ = append(l, "more")
	}
	wantAll(t, d, blob("x"), blob("y"))
}

// A disk by many puts and changes, against a map of what must be there.
func TestP7_2PutByChance(t *testing.T) {
	source := rand.New(rand.NewSource(71))
	for range 60 {
		d := api.Disk{Fuse: -1}
		there := map[string]bool{}
		for range 60 {
			s := blob("object " + strconv.Itoa(source.Intn(12)))
			switch source.Intn(8) {
			case 0:
				d, _ = disk.Remove(d, fileOf(idFor(s)))
				delete(there, s)
			case 1:
				d, _ = disk.Save(d, fileOf(idFor(s)), "changed")
				delete(there, s)
			case 2:
				d, _ = disk.Crash(d, source.Intn(4))
			case 3:
				var bad api.Errno
				d.Fuse = source.Intn(5)
				if d, _, bad = Put(d, s); bad == api.OK {
					there[s] = true
				}
				d, _ = disk.Crash(d, source.Intn(4))
			default:
				d, _, _ = Put(d, s)
				there[s] = true
			}
		}
		var objects []string
		for s := range there {
			objects = append(objects, s)
		}
		wantAll(t, d, objects...)
	}
}
