package delta

import (
	"encoding/binary"
	"math/rand"
	"strings"
	"testing"

	"cartulary/api"
)

// number is another way to the encoding of a number.
func number(n int) string {
	return string(binary.AppendUvarint(nil, uint64(n)))
}

// header is the two numbers that a delta starts with.
func header(baseSize, size int) string {
	return number(baseSize) + number(size)
}

func literal(s string) string {
	return number(2*len(s)) + s
}

func copyOf(n, k int) string {
	return number(2*n+1) + number(k)
}

func noise(source *rand.Rand, size int) string {
	b := make([]byte, size)
	for i := range b {
		b[i] = byte(source.Intn(256))
	}
	return string(b)
}

// counted has no 8 bytes twice: any 8 bytes in a row hold a whole number of two bytes and tell where it starts.
func counted(size int) string {
	b := make([]byte, 0, size+4)
	for i := 0; len(b) < size; i++ {
		b = append(b, 0xff, byte(i>>7), byte(i&0x7f), 0xfe)
	}
	return string(b[:size])
}

func hasWindowTwice(base string) bool {
	for i := 0; i+8 <= len(base); i++ {
		if strings.LastIndex(base, base[i:i+8]) != i {
			return true
		}
	}
	return false
}

// wantMake asks for what P4.1 promises of all strings that are not too long, and tells the delta.
func wantMake(t *testing.T, base, target string) string {
	t.Helper()
	d, bad := Make(base, target)
	if bad != api.OK {
		t.Fatalf("Make(%.60q, %.60q) = %d", base, target, bad)
	}
	if len(d) > len(target)+8 {
		t.Errorf("Make(%.60q, %.60q) has %d bytes for a target of %d", base, target, len(d), len(target))
	}
	wantApply(t, base, d, target)
	return d
}

// wantStart asks for what P4.1 promises of a target that starts with base.
func wantStart(t *testing.T, base, rest string) {
	t.Helper()
	if d := wantMake(t, base, base+rest); len(d) > len(rest)+20 {
		t.Errorf("Make has %d bytes for a base of %d and %d bytes behind it", len(d), len(base), len(rest))
	}
}

func wantApply(t *testing.T, base, d, want string) {
	t.Helper()
	if got, bad := Apply(base, d); got != want || bad != api.OK {
		t.Errorf("Apply(%.60q, %.60q) = %.60q (%d bytes), %d, want %.60q (%d bytes)", base, d, got, len(got), bad, want, len(want))
	}
}

func wantNoApply(t *testing.T, base, d string, want api.Errno) {
	t.Helper()
	if got, bad := Apply(base, d); got != "" || bad != want {
		t.Errorf("Apply(%.60q, %.60q) = %.60q, %d, want %d", base, d, got, bad, want)
	}
}

func TestP4_1Make(t *testing.T) {
	text := "In the year of the book, the abbot gave the mill to the brothers, and the brothers gave the abbot the mill."
	parts := []string{"", "a", text[:7], text[:8], text[:9], text[9:], text, text + text, text[40:] + text[:40],
		strings.ToUpper(text), strings.ReplaceAll(text, "the", "a"), strings.ReplaceAll(text, ",", ", so they say,"),
		strings.Repeat("a", 7), strings.Repeat("a", 8), strings.Repeat("a", 500), strings.Repeat("ab", 300), "\x00\xff\x80"}
	for _, base := range parts {
		for _, target := range parts {
			wantMake(t, base, target)
		}
	}
}

func TestP4_1Example(t *testing.T) {
	if d := wantMake(t, "", "a"); len(d) > 9 {
		t.Errorf("%d bytes", len(d))
	}
}

func TestP4_1TooLong(t *testing.T) {
	for _, over := range []int{1, 2, 100_000} {
		long := strings.Repeat("l", api.MaxObject+over)
		for _, pair := range [][2]string{{long, ""}, {"", long}, {long, "a"}, {"a", long}, {long, long}, {long, long[over:]}, {long[over:], long}} {
			if d, bad := Make(pair[0], pair[1]); d != "" || bad != api.ErrLong {
				t.Errorf("Make of %d and %d bytes has %d bytes, %d", len(pair[0]), len(pair[1]), len(d), bad)
			}
		}
	}
}

func TestP4_1AsLongAsMayBe(t *testing.T) {
	source := rand.New(rand.NewSource(41))
	one, other := noise(source, api.MaxObject), noise(source, api.MaxObject)
	same := strings.Repeat("s", api.MaxObject)
	for _, base := range []string{"", "b", one, same, one[1:], counted(api.MaxObject)} {
		for _, target := range []string{"", "t", one, other, same, other[1:], counted(api.MaxObject)} {
			wantMake(t, base, target)
		}
	}
}

// allStrings are those of two letters, up to a length.
func allStrings(most int) []string {
	list := []string{""}
	for start := 0; len(list[start]) < most; start++ {
		list = append(list, list[start]+"a", list[start]+"b")
	}
	return list
}

func TestP4_1AllOfTwoLetters(t *testing.T) {
	bases := allStrings(9)
	for _, base := range bases {
		for _, target := range bases {
			wantMake(t, base, target)
		}
	}
}

// Pieces of base that are just worth a copy, with bytes between them that aren't, are where a delta grows most easily.
func TestP4_1ShortPieces(t *testing.T) {
	source := rand.New(rand.NewSource(42))
	for _, baseSize := range []int{16, 127, 128, 300, api.MaxObject} {
		base := noise(source, baseSize)
		for piece := 1; piece <= 16; piece++ {
			for _, gap := range []int{0, 1, 2, 7, 63, 64, 65} {
				var b strings.Builder
				for b.Len()+gap+piece <= api.MaxObject {
					k := source.Intn(baseSize - piece + 1)
					b.WriteString(noise(source, gap) + base[k:k+piece])
				}
				wantMake(t, base, b.String())
			}
		}
	}
}

func edited(source *rand.Rand, s string) string {
	i := source.Intn(len(s) + 1)
	j := i + source.Intn(len(s)-i+1)
	switch source.Intn(5) {
	case 0:
		return s[:i] + s[j:]
	case 1:
		return s[:i] + noise(source, source.Intn(40)) + s[i:]
	case 2:
		return s[j:] + s[i:j] + s[:i]
	case 3:
		return s[:j] + s[i:]
	}
	return s[:i] + noise(source, min(j-i, 3)) + s[min(i+3, j):]
}

func TestP4_1EditedTargets(t *testing.T) {
	source := rand.New(rand.NewSource(43))
	for range 3000 {
		base := noise(source, source.Intn(1000))
		if source.Intn(3) == 0 {
			base = strings.Repeat(noise(source, 1+source.Intn(12)), 1+source.Intn(50))
		}
		target := base
		for range source.Intn(6) {
			target = edited(source, target)
			target = target[:min(len(target), api.MaxObject)]
		}
		wantMake(t, base, target)
		wantMake(t, target, base)
	}
}

func TestP4_1TargetStartsWithBase(t *testing.T) {
	source := rand.New(rand.NewSource(44))
	for _, size := range []int{16, 17, 31, 32, 63, 64, 65, 127, 128, 129, 1000, 4096, 8191, 8192} {
		for _, base := range []string{counted(size), noise(source, size)} {
			if hasWindowTwice(base) {
				t.Fatalf("8 bytes occur twice in a base of %d", size)
			}
			most := api.MaxObject - size
			for _, more := range []int{0, 1, 7, 8, 9, 63, 64, 127, 128, 1000, 8176} {
				more = min(more, most)
				wantStart(t, base, noise(source, more))
				wantStart(t, base, strings.Repeat("r", more))
				wantStart(t, base, strings.Repeat(base, 1+more/size)[:more])
				wantStart(t, base, (base[size/2:] + noise(source, more))[:more])
			}
		}
	}
}

// A base of which all windows are equal, or nearly all, isn't promised anything more; it is copied nonetheless.
func TestP4_1StartWithEqualWindows(t *testing.T) {
	for _, base := range []string{strings.Repeat("a", 500), strings.Repeat("ab", 300), strings.Repeat("twelve bytes", 40)} {
		wantStart(t, base, "")
		wantStart(t, base, "!")
	}
}

func FuzzP4_1Make(f *testing.F) {
	f.Add("the quick brown fox", "the quick brown fox jumps")
	f.Add("", "a")
	f.Fuzz(func(t *testing.T, base, target string) {
		if max(len(base), len(target)) <= api.MaxObject {
			wantMake(t, base, target)
		}
	})
}

func TestP4_2Apply(t *testing.T) {
	long := noise(rand.New(rand.NewSource(45)), 100_000)
	full := long[:api.MaxObject]
	for _, test := range []struct{ base, d, want string }{
		{"ab", "\x02\x01\x03\x01", "b"},
		{"", "\x00\x00", ""},
		{"abc", "\x03\x00", ""},
		{"", "\x00\x01\x02a", "a"},
		{"abc", "\x03\x03\x07\x00", "abc"},
		{"abc", "\x03\x03\x05\x01\x03\x00", "bca"},
		{"abc", "\x03\x09\x07\x00\x07\x00\x07\x00", "abcabcabc"},
		{"abc", "\x03\x05\x04xy\x07\x00", "xyabc"},
		{"abc", "\x03\x05\x07\x00\x02x\x02y", "abcxy"},
		{"abc", "\x03\x06\x02\x00\x03\x02\x04\xff\x80\x05\x00", "\x00c\xff\x80ab"},
		{full, header(len(full), len(full)) + "\x81\x80\x01\x00", full},
		{full, header(len(full), 1) + copyOf(1, len(full)-1), full[len(full)-1:]},
		{"", header(0, len(full)) + "\x80\x80\x01" + full, full},
		{full, header(len(full), 200) + copyOf(100, 8000) + literal(full[:100]), full[8000:8100] + full[:100]},
		// A base may be longer than an object.
		{long, header(len(long), 5000) + copyOf(5000, 95_000), long[95_000:]},
	} {
		wantApply(t, test.base, test.d, test.want)
	}
}

func TestP4_2ManyOperations(t *testing.T) {
	source := rand.New(rand.NewSource(46))
	for range 500 {
		base := noise(source, 1+source.Intn(300))
		var operations, want strings.Builder
		for range source.Intn(40) {
			piece := noise(source, 1+source.Intn(150))
			operation := literal(piece)
			if source.Intn(2) == 0 {
				k := source.Intn(len(base))
				n := 1 + source.Intn(len(base)-k)
				piece, operation = base[k:k+n], copyOf(n, k)
			}
			if want.Len()+len(piece) <= api.MaxObject {
				want.WriteString(piece)
				operations.WriteString(operation)
			}
		}
		wantApply(t, base, header(len(base), want.Len())+operations.String(), want.String())
	}
}

func TestP4_2HeaderUnreadable(t *testing.T) {
	tooGreat := strings.Repeat("\xff", 8) + "\x40"
	for _, d := range []string{
		"", "\x80", "\x03", "\x03\x80", "\x83\x00\x00", "\x03\x80\x00", tooGreat + "\x00", "\x03" + tooGreat,
		strings.Repeat("\x80", 20), "\x03" + strings.Repeat("\x80", 20),
		// Ahead of another base.
		"\x04", "\x04\x80", "\x04\x81\x00", "\x00",
	} {
		wantNoApply(t, "abc", d, api.ErrForm)
	}
}

func TestP4_2OtherBase(t *testing.T) {
	for _, baseSize := range []int{0, 1, 2, 4, 128 + 3, 1<<8 + 3, 1<<32 + 3, 1<<62 - 1} {
		// Ahead of the announced length, and of every operation.
		for _, rest := range []string{"\x00", "\x01\x02a", "\x81\x40", number(1<<62 - 1), "\x00\x80", "\x03\x07\x00", "\x01\x01\x09"} {
			wantNoApply(t, "abc", number(baseSize)+rest, api.ErrBase)
		}
	}
	wantNoApply(t, "", "\x01\x00", api.ErrBase)
}

func TestP4_2AnnouncedTooLong(t *testing.T) {
	for _, size := range []int{api.MaxObject + 1, api.MaxObject + 2, 1 << 32, 1<<62 - 1} {
		// Ahead of every operation, and of there being too few bytes.
		for _, rest := range []string{"", "\x02a", "\x80", "\x00", "\x01\x09", "\x07\x00"} {
			wantNoApply(t, "abc", header(3, size)+rest, api.ErrLong)
		}
	}
	wantNoApply(t, "abc", header(3, api.MaxObject), api.ErrForm)
	long := strings.Repeat("l", api.MaxObject+1)
	wantNoApply(t, "abc", header(3, len(long))+literal(long), api.ErrLong)
	wantNoApply(t, "abc", header(3, len(long)-1)+literal(long), api.ErrForm)
	wantNoApply(t, long, header(len(long), len(long))+copyOf(len(long), 0), api.ErrLong)
}

func TestP4_2UnreadableOperations(t *testing.T) {
	tooGreat := strings.Repeat("\xff", 8) + "\x40"
	for _, operation := range []string{
		"\x80", "\x81\x00\x00", tooGreat + "\x00",
		"\x02", "\x04x", number(1<<62-2) + "abc",
		"\x01", "\x03", number(1<<62 - 1), "\x03\x80", "\x03\x81\x00", "\x09" + tooGreat,
	} {
		for _, size := range []int{1, 4, api.MaxObject} {
			wantNoApply(t, "abc", header(3, size)+operation, api.ErrForm)
			wantNoApply(t, "abc", header(3, size)+"\x02x"+operation, api.ErrForm)
		}
	}
}

// The wrong operation is the first one, or stands behind one that is right and ahead of one that is wrong otherwise.
func TestP4_2WrongCopies(t *testing.T) {
	greatest := 1<<62 - 1
	for _, test := range []struct {
		n, k int
		want api.Errno
	}{
		// Out of base, also where n is 0 or more bytes come than are announced.
		{1, 3, api.ErrRange}, {2, 2, api.ErrRange}, {3, 1, api.ErrRange}, {4, 0, api.ErrRange}, {1, 4, api.ErrRange},
		{0, 4, api.ErrRange}, {0, 5, api.ErrRange}, {0, greatest, api.ErrRange}, {1, greatest, api.ErrRange},
		{5, 0, api.ErrRange}, {100, 0, api.ErrRange}, {9000, 1, api.ErrRange}, {greatest / 2, 0, api.ErrRange},
		{greatest / 2, 3, api.ErrRange}, {greatest / 2, greatest, api.ErrRange}, {3, greatest, api.ErrRange},
		// Inside of it, but without bytes.
		{0, 0, api.ErrForm}, {0, 1, api.ErrForm}, {0, 2, api.ErrForm}, {0, 3, api.ErrForm},
	} {
		operation := copyOf(test.n, test.k)
		for _, size := range []int{0, 1, 4, api.MaxObject} {
			for _, next := range []string{"", "\x80", "\x00", "\x01\x09", "\x02y"} {
				wantNoApply(t, "abc", header(3, size)+operation+next, test.want)
				if size > 0 {
					wantNoApply(t, "abc", header(3, size)+"\x02x"+operation+next, test.want)
				}
			}
		}
	}
}

func TestP4_2NoBytes(t *testing.T) {
	for _, d := range []string{"\x03\x00\x00", "\x03\x01\x00\x02a", "\x03\x01\x02a\x00", "\x03\x01\x02a\x01\x00", "\x03\x01\x00\x03\x09"} {
		wantNoApply(t, "abc", d, api.ErrForm)
	}
	wantNoApply(t, "", "\x00\x00\x00", api.ErrForm)
	wantNoApply(t, "", "\x00\x00\x01\x00", api.ErrForm)
	wantNoApply(t, "", "\x00\x00\x01\x01", api.ErrRange)
}

func TestP4_2OtherThanAnnounced(t *testing.T) {
	for _, operations := range []string{literal("abc"), copyOf(3, 0), literal("a") + copyOf(2, 1), copyOf(1, 0) + copyOf(1, 1) + literal("c")} {
		for size := range 10 {
			if d := header(3, size) + operations; size == 3 {
				wantApply(t, "abc", d, "abc")
			} else {
				wantNoApply(t, "abc", d, api.ErrForm)
			}
		}
		// The operation that brings too many bytes is told ahead of one behind it.
		wantNoApply(t, "abc", header(3, 2)+operations+"\x03\x09", api.ErrForm)
		wantNoApply(t, "abc", header(3, 4)+operations+"\x03\x09", api.ErrRange)
	}
}

func TestP4_2BeginningsOfDeltas(t *testing.T) {
	base := counted(300)
	for _, test := range []struct{ base, d string }{
		{base, wantMake(t, base, base+"more")},
		{base, wantMake(t, base, "x"+base[100:]+"y"+base[:200]+"z")},
		{base, header(300, 400) + copyOf(200, 100) + literal(base[:200])},
		{"", wantMake(t, "", "literal")},
	} {
		for n := range len(test.d) {
			wantNoApply(t, test.base, test.d[:n], api.ErrForm)
		}
	}
}

// plain is another way to a number: it tells what is behind it, and whether it could be read.
func plain(d string) (int, string, bool) {
	n, size := binary.Uvarint([]byte(d))
	if size <= 0 || n >= 1<<62 || number(int(n)) != d[:size] {
		return 0, "", false
	}
	return int(n), d[size:], true
}

// slowly is Apply as the chapter says it, sentence by sentence.
func slowly(base, d string) (string, api.Errno) {
	baseSize, d, ok := plain(d)
	if !ok {
		return "", api.ErrForm
	}
	size, d, ok := plain(d)
	if !ok {
		return "", api.ErrForm
	}
	if baseSize != len(base) {
		return "", api.ErrBase
	}
	if size > api.MaxObject {
		return "", api.ErrLong
	}
	out := ""
	for d != "" {
		piece, rest, bad := slowPiece(base, d)
		if bad != api.OK {
			return "", bad
		}
		out, d = out+piece, rest
		if piece == "" || len(out) > size {
			return "", api.ErrForm
		}
	}
	if len(out) < size {
		return "", api.ErrForm
	}
	return out, api.OK
}

func slowPiece(base, d string) (string, string, api.Errno) {
	operation, d, ok := plain(d)
	if !ok {
		return "", "", api.ErrForm
	}
	n := operation >> 1
	if operation&1 == 0 {
		if n > len(d) {
			return "", "", api.ErrForm
		}
		return d[:n], d[n:], api.OK
	}
	k, d, ok := plain(d)
	if !ok {
		return "", "", api.ErrForm
	}
	if k > len(base) {
		return "", "", api.ErrRange
	}
	if from := base[k:]; n <= len(from) {
		return from[:n], d, api.OK
	}
	return "", "", api.ErrRange
}

func checkApply(t *testing.T, base, d string) api.Errno {
	t.Helper()
	want, bad := slowly(base, d)
	if bad == api.OK {
		wantApply(t, base, d, want)
	} else {
		wantNoApply(t, base, d, bad)
	}
	return bad
}

func TestP4_2AllShortDeltas(t *testing.T) {
	seen := map[api.Errno]int{}
	letters := "\x00\x01\x02\x03\x04\x05\x06\x80\x81"
	list := []string{""}
	for at := 0; at < len(list); at++ {
		d := list[at]
		seen[checkApply(t, "ab", d)]++
		for i := 0; i < len(letters) && len(d) < 6; i++ {
			list = append(list, d+letters[i:i+1])
		}
	}
	for _, bad := range []api.Errno{api.OK, api.ErrForm, api.ErrBase, api.ErrRange} {
		if seen[bad] < 50 {
			t.Errorf("only %d deltas with %d", seen[bad], bad)
		}
	}
}

func TestP4_2ChangedDeltas(t *testing.T) {
	source := rand.New(rand.NewSource(47))
	seen := map[api.Errno]int{}
	for range 50_000 {
		base := noise(source, 20+source.Intn(200))
		target := edited(source, edited(source, base))
		b := []byte(wantMake(t, base, target))
		for range 1 + source.Intn(2) {
			b[source.Intn(len(b))] ^= 1 << source.Intn(8)
		}
		seen[checkApply(t, base, string(b))]++
	}
	for _, bad := range []api.Errno{api.OK, api.ErrForm, api.ErrBase, api.ErrRange} {
		if seen[bad] < 100 {
			t.Errorf("only %d deltas with %d", seen[bad], bad)
		}
	}
}

func FuzzP4_2Apply(f *testing.F) {
	f.Add("ab", "\x02\x01\x03\x01")
	f.Add("abc", "\x03\x05\x04xy\x07\x00")
	f.Fuzz(func(t *testing.T, base, d string) {
		checkApply(t, base, d)
	})
}
