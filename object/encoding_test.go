package object

import (
	"encoding/binary"
	"math/rand"
	"strings"
	"testing"

	"cartulary/api"
)

// number is another way to the encoding of a number.
func number(n int) string {
	return string(binary.AppendUvarint(nil, uint64(n)))
}

func text(s string) string {
	return number(len(s)) + s
}

func wantEncode(t *testing.T, o api.Object, want string, wantBad api.Errno) {
	t.Helper()
	if got, bad := Encode(o); got != want || bad != wantBad {
		t.Errorf("Encode(%.300s) = %.300q, %d, want %.300q, %d", describe(o), got, bad, want, wantBad)
	}
}

func wantDecode(t *testing.T, s string, want api.Object, wantBad api.Errno) {
	t.Helper()
	if got, bad := Decode(s); !sameObject(got, want) || bad != wantBad {
		t.Errorf("Decode(%.300q) = %.300s, %d, want %.300s, %d", s, describe(got), bad, describe(want), wantBad)
	}
}

func wantNoDecode(t *testing.T, s string, want api.Errno) {
	t.Helper()
	wantDecode(t, s, api.Object{}, want)
}

// example is an object and its encoding, written out part by part.
type example struct {
	object  api.Object
	encoded string
}

func examples() []example {
	long := strings.Repeat("\xffl", api.MaxText/2)
	name := strings.Repeat("~", api.MaxName)
	list := []example{
		{blob(""), "\x01\x00"},
		{blob("hello"), "\x01\x05hello"},
		{blob("\x00\x80"), "\x01\x02\x00\x80"},
		{blob(strings.Repeat("d", 128)), "\x01\x80\x01" + strings.Repeat("d", 128)},
		{blob(long), "\x01\x80\x20" + long},
		{tree(), "\x02\x00"},
		{treeOf("a"), "\x02\x01" + "\x01a\x00" + id(0)},
		{treeOf("a", name), "\x02\x02" + "\x01a\x00" + id(0) + "\x3c" + name + "\x01" + id(1)},
		{api.Object{Kind: api.Commit, Tree: id(1)}, "\x03" + id(1) + "\x00" + "\x00" + "\x00" + "\x00"},
		{commit(), "\x03" + id(100) + "\x00" + "\x02me" + "\x07" + "\x0cfirst\nsecond"},
		{commit(id(5), id(4)), "\x03" + id(100) + "\x02" + id(5) + id(4) + "\x02me" + "\x07" + "\x0cfirst\nsecond"},
		{commit(ids(api.MaxParents)...), "\x03" + id(100) + "\x04" + strings.Join(ids(4), "") + "\x02me" + "\x07" + "\x0cfirst\nsecond"},
		{api.Object{Kind: api.Commit, Tree: id(1), Time: 300}, "\x03" + id(1) + "\x00" + "\x00" + "\xac\x02" + "\x00"},
		{api.Object{Kind: api.Commit, Tree: id(1), Time: 1<<40 - 1, Note: long},
			"\x03" + id(1) + "\x00" + "\x00" + "\xff\xff\xff\xff\xff\x1f" + "\x80\x20" + long},
		{api.Object{Kind: api.Tag, Target: id(1)}, "\x04" + id(1) + "\x00" + "\x00"},
		{tag(), "\x04" + id(200) + "\x03you" + "\x02v1"},
		{api.Object{Kind: api.Tag, Target: id(1), Who: long, Note: "n"}, "\x04" + id(1) + "\x80\x20" + long + "\x01n"},
	}
	full := treeOf(names(api.MaxEntries)...)
	encoded := "\x02\x40"
	for i, e := range full.Entries {
		encoded += text(e.Name) + number(i%2) + id(i)
	}
	return append(list, example{full, encoded})
}

func TestP3_3Encode(t *testing.T) {
	for _, e := range examples() {
		wantEncode(t, e.object, e.encoded, api.OK)
	}
}

func TestP3_3EncodeOfWrongObjects(t *testing.T) {
	long := strings.Repeat("x", api.MaxText+1)
	for _, test := range []struct {
		object api.Object
		want   api.Errno
	}{
		{api.Object{}, api.ErrKind},
		{api.Object{Kind: 5}, api.ErrKind},
		{changed(blob("a"), func(o *api.Object) { o.Note = "n" }), api.ErrForm},
		{blob(long), api.ErrLong},
		{treeOf(names(api.MaxEntries + 1)...), api.ErrFull},
		{treeOf("b", "a"), api.ErrForm},
		{treeOf(".."), api.ErrForm},
		{commit(ids(api.MaxParents + 1)...), api.ErrFull},
		{commit(id(1), id(1)), api.ErrTwice},
		{commit("p"), api.ErrForm},
		{changed(commit(), func(o *api.Object) { o.Tree = "" }), api.ErrForm},
		{changed(commit(), func(o *api.Object) { o.Time = -1 }), api.ErrRange},
		{changed(commit(), func(o *api.Object) { o.Time = 1 << 62 }), api.ErrRange},
		{changed(tag(), func(o *api.Object) { o.Who = "\x00" }), api.ErrForm},
		{changed(tag(), func(o *api.Object) { o.Target += "x" }), api.ErrForm},
		{wrongInAll(api.Tag), api.ErrForm},
	} {
		wantGood(t, test.object, test.want)
		wantEncode(t, test.object, "", test.want)
	}
}

// sized has an encoding of just so many bytes: its texts are filled up.
func sized(t *testing.T, o api.Object, size int) (api.Object, string) {
	t.Helper()
	o.Who = strings.Repeat("w", api.MaxText)
	head, middle := "\x04"+o.Target, ""
	if o.Kind == api.Commit {
		head = "\x03" + o.Tree + number(len(o.Parents)) + strings.Join(o.Parents, "")
		middle = number(o.Time)
	}
	head += text(o.Who) + middle
	// The length of Note takes two bytes, as that of every text of 128 to 16383 bytes.
	o.Note = strings.Repeat("n", size-len(head)-2)
	encoded := head + text(o.Note)
	if len(encoded) != size || len(o.Note) > api.MaxText {
		t.Fatalf("%d bytes, of which Note has %d, and not %d", len(encoded), len(o.Note), size)
	}
	return o, encoded
}

func TestP3_3EncodingTooLong(t *testing.T) {
	for _, o := range []api.Object{tag(), commit(), commit(ids(api.MaxParents)...)} {
		for _, size := range []int{api.MaxObject - 1, api.MaxObject} {
			fits, encoded := sized(t, o, size)
			wantEncode(t, fits, encoded, api.OK)
			wantDecode(t, encoded, fits, api.OK)
		}
		for _, size := range []int{api.MaxObject + 1, api.MaxObject + 2} {
			tooLong, encoded := sized(t, o, size)
			wantGood(t, tooLong, api.OK)
			wantEncode(t, tooLong, "", api.ErrLong)
			wantNoDecode(t, encoded, api.ErrLong)
		}
	}
	// The error of Good goes ahead of the length.
	wrong, _ := sized(t, commit(ids(2)...), api.MaxObject+1)
	wrong.Time = 1 << 40
	wantEncode(t, wrong, "", api.ErrRange)
}

func TestP3_4Decode(t *testing.T) {
	for _, e := range examples() {
		wantDecode(t, e.encoded, e.object, api.OK)
	}
}

func TestP3_4DecodeTooLong(t *testing.T) {
	for _, start := range []string{"", "\x01", "\x80", "\x09", "\x02\x00"} {
		fill := api.MaxObject - len(start)
		wantNoDecode(t, start+strings.Repeat("\xff", fill+1), api.ErrLong)
		wantNoDecode(t, start+strings.Repeat("\x00", 100_000), api.ErrLong)
		s := start + strings.Repeat("\xff", fill)
		if _, bad := Decode(s); bad == api.ErrLong {
			t.Errorf("Decode(%.10q...) of MaxObject bytes is too long", s)
		}
	}
}

func TestP3_4DecodeWithoutNumber(t *testing.T) {
	for _, s := range []string{
		"", "\x80", "\xff\xff", "\x81\x00", "\x80\x00", "\x81\x80\x00\x00", "\x84\x00" + id(1) + "\x00\x00",
		strings.Repeat("\xff", 8) + "\x40", strings.Repeat("\x81", 9) + "\x01", strings.Repeat("\x80", api.MaxObject),
	} {
		wantNoDecode(t, s, api.ErrForm)
	}
}

func TestP3_4DecodeOtherKinds(t *testing.T) {
	for _, kind := range []int{0, 5, 6, 127, 128, 129, 257, 1<<32 + 1, 1<<62 - 1} {
		for _, rest := range []string{"", "\x00", "\x80", "\x00\x00\x00", id(1) + "\x00\x00"} {
			wantNoDecode(t, number(kind)+rest, api.ErrKind)
		}
	}
}

func TestP3_4DecodeOfBeginnings(t *testing.T) {
	for _, e := range examples() {
		for n := range len(e.encoded) {
			wantNoDecode(t, e.encoded[:n], api.ErrForm)
		}
	}
}

func TestP3_4DecodeOfFurtherBytes(t *testing.T) {
	for _, e := range examples() {
		for _, more := range []string{"x", "\x00", "\x80", "\x01\x00", strings.Repeat("m", 500)} {
			wantNoDecode(t, e.encoded+more, api.ErrForm)
		}
	}
}

func TestP3_4DecodeOfOtherNumbers(t *testing.T) {
	for _, s := range []string{
		// Longer than necessary.
		"\x01\x80\x00", "\x01\x81\x00a", "\x02\x80\x00", "\x02\x81\x00" + "\x01a\x00" + id(1),
		"\x02\x01" + "\x81\x00a\x00" + id(1), "\x02\x01" + "\x01a\x80\x00" + id(1), "\x02\x01" + "\x01a\x81\x00" + id(1),
		"\x03" + id(1) + "\x80\x00" + "\x00\x00\x00", "\x03" + id(1) + "\x00" + "\x00" + "\x87\x00" + "\x00",
		"\x04" + id(1) + "\x00\x80\x00",
		// Too great for a number.
		"\x03" + id(1) + "\x00" + "\x00" + strings.Repeat("\xff", 8) + "\x40" + "\x00",
	} {
		wantNoDecode(t, s, api.ErrForm)
	}
}

func TestP3_4DecodeDir(t *testing.T) {
	for _, dir := range []int{2, 3, 127, 128, 256, 257, 1 << 32, 1<<62 - 1} {
		wantNoDecode(t, "\x02\x01"+"\x01a"+number(dir)+id(1), api.ErrForm)
		wantNoDecode(t, "\x02\x02"+"\x01a\x00"+id(1)+"\x01b"+number(dir)+id(1), api.ErrForm)
		// Ahead of the error of Good, also where that stands earlier in the bytes.
		tooMany := "\x02" + number(api.MaxEntries+1)
		for _, name := range names(api.MaxEntries) {
			tooMany += text(name) + "\x00" + id(1)
		}
		wantNoDecode(t, tooMany+"\x01z"+number(dir)+id(1), api.ErrForm)
		wantNoDecode(t, tooMany+"\x01z\x01"+id(1), api.ErrFull)
	}
}

// A number of entries or parents that no bytes could hold is answered at once.
func TestP3_4DecodeOfGreatCounts(t *testing.T) {
	for _, many := range []int{1, 5, 65, 1 << 20, 1 << 40, 1<<62 - 1} {
		wantNoDecode(t, "\x02"+number(many), api.ErrForm)
		wantNoDecode(t, "\x02"+number(many+1)+"\x01a\x00"+id(1), api.ErrForm)
		wantNoDecode(t, "\x02"+number(many)+strings.Repeat("\x00", 33), api.ErrForm)
		wantNoDecode(t, "\x03"+id(1)+number(many), api.ErrForm)
		wantNoDecode(t, "\x03"+id(1)+number(many+1)+id(2), api.ErrForm)
		wantNoDecode(t, "\x03"+id(1)+number(many+1)+id(2)+"\x00\x00\x00", api.ErrForm)
	}
}

// A string of more than MaxText bytes is not encoded as package wire encodes strings.
func TestP3_4DecodeOfLongTexts(t *testing.T) {
	for _, length := range []int{api.MaxText + 1, api.MaxText + 2, 7000} {
		long := text(strings.Repeat("l", length))
		for _, s := range []string{
			"\x01" + long, "\x02\x01" + long + "\x00" + id(1),
			"\x03" + id(1) + "\x00" + long + "\x00\x00", "\x03" + id(1) + "\x00" + "\x00\x00" + long,
			"\x04" + id(1) + long + "\x00", "\x04" + id(1) + "\x00" + long,
		} {
			wantNoDecode(t, s, api.ErrForm)
		}
	}
	wantNoDecode(t, "\x01"+number(api.MaxText+1), api.ErrForm)
	wantNoDecode(t, "\x01"+number(1<<62-1), api.ErrForm)
}

// What is encoded as described, but is no valid object, has the error of Good.
func TestP3_4DecodeOfWrongObjects(t *testing.T) {
	entry := func(name string) string { return text(name) + "\x00" + id(1) }
	commitOf := func(parents ...string) string {
		return "\x03" + id(1) + number(len(parents)) + strings.Join(parents, "") + "\x00\x00\x00"
	}
	tooMany := "\x02" + number(api.MaxEntries+1)
	for _, name := range names(api.MaxEntries + 1) {
		tooMany += entry(name)
	}
	for s, want := range map[string]api.Errno{
		"\x02\x01" + entry(""):                                 api.ErrForm,
		"\x02\x01" + entry("."):                                api.ErrForm,
		"\x02\x01" + entry(".."):                               api.ErrForm,
		"\x02\x01" + entry("a/b"):                              api.ErrForm,
		"\x02\x01" + entry("é"):                                api.ErrForm,
		"\x02\x02" + entry("b") + entry("a"):                   api.ErrForm,
		"\x02\x02" + entry("a") + entry("a"):                   api.ErrForm,
		"\x02\x01" + entry(strings.Repeat("x", api.MaxName+1)): api.ErrForm,
		tooMany: api.ErrFull,
		"\x02\xf0\x01" + strings.Repeat("\x00\x00"+id(1), 240):        api.ErrFull,
		commitOf(ids(api.MaxParents + 1)...):                          api.ErrFull,
		commitOf(ids(100)...):                                         api.ErrFull,
		commitOf(id(2), id(2)):                                        api.ErrTwice,
		commitOf(id(2), id(3), id(4), id(2)):                          api.ErrTwice,
		"\x03" + id(1) + "\x00" + "\x01\x00" + "\x00" + "\x00":        api.ErrForm,
		"\x03" + id(1) + "\x00" + "\x00" + "\x00" + "\x02n\x00":       api.ErrForm,
		"\x03" + id(1) + "\x00" + "\x00" + number(1<<40) + "\x00":     api.ErrRange,
		"\x03" + id(1) + "\x00" + "\x00" + number(1<<62-1) + "\x00":   api.ErrRange,
		"\x03" + id(1) + "\x00" + "\x01\x00" + number(1<<40) + "\x00": api.ErrForm,
		"\x04" + id(1) + "\x01\x00" + "\x00":                          api.ErrForm,
		"\x04" + id(1) + "\x00" + "\x01\x00":                          api.ErrForm,
	} {
		wantNoDecode(t, s, want)
	}
}

// Further bytes are told ahead of the error of Good.
func TestP3_4FurtherBytesGoFirst(t *testing.T) {
	for s, want := range map[string]api.Errno{
		"\x03" + id(1) + "\x02" + id(2) + id(2) + "\x00\x00\x00":            api.ErrTwice,
		"\x03" + id(1) + "\x00" + "\x00" + number(1<<40) + "\x00":           api.ErrRange,
		"\x03" + id(1) + "\x05" + strings.Join(ids(5), "") + "\x00\x00\x00": api.ErrFull,
	} {
		wantNoDecode(t, s, want)
		wantNoDecode(t, s+"x", api.ErrForm)
		wantNoDecode(t, s[:len(s)-1], api.ErrForm)
	}
}

// checkDecode asks what holds of all bytes: an object that comes of them is valid, and has no other encoding.
func checkDecode(t *testing.T, s string) bool {
	t.Helper()
	o, bad := Decode(s)
	if bad != api.OK {
		wantNoDecode(t, s, bad)
		return false
	}
	wantGood(t, o, api.OK)
	wantEncode(t, o, s, api.OK)
	return true
}

func TestP3_4NoOtherEncoding(t *testing.T) {
	source := rand.New(rand.NewSource(3))
	list := examples()
	objects := 0
	for range 50_000 {
		b := []byte(list[source.Intn(len(list))].encoded)
		for range 1 + source.Intn(3) {
			i := source.Intn(min(len(b), 1+source.Intn(200)))
			b[i] ^= 1 << source.Intn(8)
		}
		if checkDecode(t, string(b)) {
			objects++
		}
	}
	if objects < 1000 {
		t.Errorf("only %d of the bytes were objects", objects)
	}
}

func TestP3_4AllShortStrings(t *testing.T) {
	for first := range 256 {
		for second := range 256 {
			for _, third := range []byte{0, 1, 'a', 0x80, 0xff} {
				s := string([]byte{byte(first), byte(second), third})
				for n := range len(s) + 1 {
					checkDecode(t, s[:n])
				}
			}
		}
	}
}

func FuzzP3_4Decode(f *testing.F) {
	for _, e := range examples() {
		f.Add(e.encoded)
	}
	f.Fuzz(func(t *testing.T, s string) {
		checkDecode(t, s)
	})
}
