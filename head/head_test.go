package head

import (
	"math/rand"
	"slices"
	"strings"
	"testing"

	"cartulary/api"
)

func wantGood(t *testing.T, h api.Head, want api.Errno) {
	t.Helper()
	if got := Good(h); got != want {
		t.Errorf("Good(%s) = %d, want %d", describe(h), got, want)
	}
}

func wantText(t *testing.T, h api.Head, want string, wantBad api.Errno) {
	t.Helper()
	if got, bad := Text(h); got != want || bad != wantBad {
		t.Errorf("Text(%s) = %.100q, %d, want %.100q, %d", describe(h), got, bad, want, wantBad)
	}
}

func wantRead(t *testing.T, b string, want api.Head, wantBad api.Errno) {
	t.Helper()
	if got, bad := Read(b); got != want || bad != wantBad {
		t.Errorf("Read(%.100q) = %s, %d, want %s, %d", b, describe(got), bad, describe(want), wantBad)
	}
}

func wantNoRead(t *testing.T, b string, want api.Errno) {
	t.Helper()
	wantRead(t, b, api.Head{}, want)
}

func TestP11_1Good(t *testing.T) {
	for _, h := range rightHeads() {
		wantGood(t, h, api.OK)
	}
	for size := range api.MaxLog + 1 {
		wantGood(t, api.Head{Size: size, Root: strings.Repeat("r", 32)}, api.OK)
	}
}

func TestP11_1GoodOfWrongHeads(t *testing.T) {
	for _, e := range wrongHeads() {
		wantGood(t, e.head, e.want)
	}
	for length := range 100 {
		if length != 32 {
			wantGood(t, api.Head{Size: 1, Root: strings.Repeat("r", length)}, api.ErrForm)
			wantGood(t, api.Head{Size: api.MaxLog + 1, Root: strings.Repeat("r", length)}, api.ErrRange)
		}
	}
}

func TestP11_1Empty(t *testing.T) {
	if got := Empty(); got != (api.Head{Size: 0, Root: digest("")}) {
		t.Errorf("Empty() = %s", describe(got))
	}
	wantGood(t, Empty(), api.OK)
}

func TestP11_2Text(t *testing.T) {
	root := digest("root")
	wantText(t, Empty(), "\x00"+digest(""), api.OK)
	wantText(t, api.Head{Size: 1, Root: root}, "\x01"+root, api.OK)
	wantText(t, api.Head{Size: 127, Root: root}, "\x7f"+root, api.OK)
	wantText(t, api.Head{Size: 128, Root: root}, "\x80\x01"+root, api.OK)
	wantText(t, api.Head{Size: 200, Root: root}, "\xc8\x01"+root, api.OK)
	for _, h := range rightHeads() {
		wantText(t, h, textOf(h), api.OK)
	}
	if b, _ := Text(Empty()); len(b) != 33 {
		t.Errorf("the empty head has %d bytes", len(b))
	}
}

func TestP11_2TextOfWrongHeads(t *testing.T) {
	for _, e := range wrongHeads() {
		wantText(t, e.head, "", e.want)
	}
}

func TestP11_2Read(t *testing.T) {
	for _, h := range rightHeads() {
		b, bad := Text(h)
		if bad != api.OK {
			t.Fatalf("Text(%s): %d", describe(h), bad)
		}
		wantRead(t, b, h, api.OK)
		wantRead(t, textOf(h), h, api.OK)
	}
}

// Neither a part of a head's bytes nor anything around them is the bytes of a head.
func TestP11_2ReadOfOtherForms(t *testing.T) {
	wantNoRead(t, "", api.ErrForm)
	for _, size := range []int{0, 1, 127, 128, api.MaxLog, api.MaxLog + 1, 1<<62 - 1} {
		for _, root := range roots() {
			b := number(size) + root
			for end := range b {
				wantNoRead(t, b[:end], api.ErrForm)
			}
			for _, more := range []string{"\x00", "x", b, strings.Repeat("m", api.MaxText+1)} {
				wantNoRead(t, b+more, api.ErrForm)
			}
		}
	}
	root := digest("root")
	for _, noNumber := range []string{
		"\x80", "\x80\x00", "\x81\x00", "\xc8\x81\x00", "\xff\xff", strings.Repeat("\xff", 8) + "\x40", strings.Repeat("\xff", 9) + "\x01", strings.Repeat("\x80", 9) + "\x01",
	} {
		wantNoRead(t, noNumber+strings.Repeat("\xff", 32), api.ErrForm)
		wantNoRead(t, noNumber+strings.Repeat("\x80", 32), api.ErrForm)
	}
	wantNoRead(t, "\x81\x00"+root, api.ErrForm)
	wantNoRead(t, "\x01"+text(root), api.ErrForm)
}

func TestP11_2ReadOfSizesTooGreat(t *testing.T) {
	for _, root := range roots() {
		for size := api.MaxLog + 1; size < 700; size++ {
			wantNoRead(t, number(size)+root, api.ErrRange)
		}
		for _, size := range []int{1 << 14, 1 << 32, 1<<32 + 1, 1 << 61, 1<<62 - 1} {
			wantNoRead(t, number(size)+root, api.ErrRange)
		}
		// From 2^62 on there is no such number.
		wantNoRead(t, number(1<<62)+root, api.ErrForm)
		wantNoRead(t, number(-1)+root, api.ErrForm)
	}
}

// A root has 32 bytes; with others there is no encoding, whatever the size.
func TestP11_2ReadOfOtherRoots(t *testing.T) {
	for _, root := range noRoots() {
		for _, size := range []int{0, 1, 128, api.MaxLog, api.MaxLog + 1, 1<<62 - 1} {
			wantNoRead(t, number(size)+root, api.ErrForm)
		}
	}
}

// slowRead goes through all sizes instead of reading one.
func slowRead(b string) (api.Head, api.Errno) {
	if len(b) < 33 {
		return api.Head{}, api.ErrForm
	}
	size, root := b[:len(b)-32], b[len(b)-32:]
	for n := range 1 << 14 {
		if number(n) == size && n <= api.MaxLog {
			return api.Head{Size: n, Root: root}, api.OK
		}
		if number(n) == size {
			return api.Head{}, api.ErrRange
		}
	}
	return api.Head{}, api.ErrForm
}

func TestP11_2ReadByChance(t *testing.T) {
	random := rand.New(rand.NewSource(112))
	heads := rightHeads()
	seen := map[api.Errno]int{}
	for range 3000 {
		b := []byte(textOf(heads[random.Intn(len(heads))]))
		for range random.Intn(3) {
			switch at := random.Intn(2); random.Intn(4) {
			case 0:
				b[at] = byte(random.Intn(256))
			case 1:
				b = slices.Insert(b, at, byte(random.Intn(4)))
			case 2:
				b = slices.Delete(b, at, at+1)
			case 3:
				b[random.Intn(len(b))] ^= 1
			}
		}
		// Two bytes for the size are the most that slowRead goes through.
		if len(b) > 34 {
			continue
		}
		want, wantBad := slowRead(string(b))
		wantRead(t, string(b), want, wantBad)
		seen[wantBad]++
	}
	for _, bad := range []api.Errno{api.OK, api.ErrForm, api.ErrRange} {
		if seen[bad] < 50 {
			t.Errorf("error %d was seen %d times", bad, seen[bad])
		}
	}
}

func FuzzP11_2Read(f *testing.F) {
	for _, h := range rightHeads()[198:204] {
		f.Add(textOf(h))
		f.Add(textOf(h)[1:])
		f.Add("\xff" + textOf(h))
	}
	f.Fuzz(func(t *testing.T, b string) {
		h, bad := Read(b)
		switch {
		case bad == api.OK && textOf(h) != b, bad != api.OK && h != api.Head{}:
			t.Errorf("Read(%q) = %s, %d", b, describe(h), bad)
		case bad != api.OK && bad != api.ErrForm && bad != api.ErrRange:
			t.Errorf("Read(%q): %d", b, bad)
		}
		if bad == api.OK {
			wantText(t, h, b, api.OK)
		}
	})
}
