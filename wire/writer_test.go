package wire

import (
	"math"
	"math/rand"
	"strings"
	"testing"

	"cartulary/api"
)

func wantDone(t *testing.T, w *Writer, want string, wantBad api.Errno) {
	t.Helper()
	for range 2 {
		got, bad := w.Done()
		wantText(t, "Done", got, bad, want, wantBad)
	}
}

func TestP2_5ZeroValueIsEmpty(t *testing.T) {
	var w Writer
	wantDone(t, &w, "", api.OK)
	wantDone(t, new(Writer), "", api.OK)
}

func TestP2_5WriterAppends(t *testing.T) {
	var w Writer
	w.Number(1)
	wantDone(t, &w, "\x01", api.OK)
	w.Text("a")
	wantDone(t, &w, "\x01\x01a", api.OK)
	w.Bytes("a")
	wantDone(t, &w, "\x01\x01aa", api.OK)
	w.Bytes("")
	w.Text("")
	w.Number(0)
	w.Number(numberLimit - 1)
	wantDone(t, &w, "\x01\x01aa\x00\x00"+uvarint(numberLimit-1), api.OK)
	// A text has a limit; plain bytes have none.
	long := strings.Repeat("l", 10*api.MaxText)
	w.Bytes(long)
	text := strings.Repeat("t", api.MaxText)
	w.Text(text)
	wantDone(t, &w, "\x01\x01aa\x00\x00"+uvarint(numberLimit-1)+long+uvarint(api.MaxText)+text, api.OK)
}

func TestP2_5WriterKeepsFirstError(t *testing.T) {
	long := strings.Repeat("x", api.MaxText+1)
	for _, n := range []int{-1, math.MinInt, numberLimit, math.MaxInt} {
		var w Writer
		w.Bytes("before")
		w.Number(n)
		wantDone(t, &w, "", api.ErrRange)
		w.Text(long)
		wantDone(t, &w, "", api.ErrRange)
		w.Number(1)
		w.Text("a")
		w.Bytes("b")
		wantDone(t, &w, "", api.ErrRange)
	}
	var w Writer
	w.Text(long)
	wantDone(t, &w, "", api.ErrLong)
	w.Number(-1)
	w.Bytes("")
	w.Number(0)
	wantDone(t, &w, "", api.ErrLong)
}

func TestP2_5NilWriter(t *testing.T) {
	var none *Writer
	wantDone(t, none, "", api.ErrForm)
	none.Number(1)
	none.Number(-1)
	none.Text("a")
	none.Text(strings.Repeat("x", api.MaxText+1))
	none.Bytes("b")
	wantDone(t, none, "", api.ErrForm)
}

// What a copy of a writer answers hangs on the calls made on it, not on those made on the other one.
func TestP2_5WritersAreApart(t *testing.T) {
	var w Writer
	for range 20 {
		w.Bytes("abc")
	}
	other := w
	w.Bytes("one")
	other.Bytes("two")
	failed := w
	failed.Number(-1)
	before := strings.Repeat("abc", 20)
	wantDone(t, &w, before+"one", api.OK)
	wantDone(t, &other, before+"two", api.OK)
	wantDone(t, &failed, "", api.ErrRange)
}

// A reader gives back what a writer was given.
func TestP2_5WrittenAndRead(t *testing.T) {
	source := rand.New(rand.NewSource(5))
	for range 200 {
		var w Writer
		var checks []func(r *Reader) bool
		for range source.Intn(30) {
			n := int(source.Uint64() >> (2 + source.Intn(62)))
			s := strings.Repeat("\x80s", source.Intn(100))
			switch source.Intn(3) {
			case 0:
				w.Number(n)
				checks = append(checks, func(r *Reader) bool { return r.Number() == n })
			case 1:
				w.Text(s)
				checks = append(checks, func(r *Reader) bool { return r.Text() == s })
			default:
				w.Bytes(s)
				checks = append(checks, func(r *Reader) bool { return r.Bytes(len(s)) == s })
			}
		}
		b, bad := w.Done()
		wantText(t, "Done", b, bad, b, api.OK)
		r := Read(b)
		for i, check := range checks {
			if !check(r) {
				t.Fatalf("part %d of %q is read as another one", i, b)
			}
		}
		wantReader(t, r, 0, api.OK)
	}
}

// Appending a million times must not copy all bytes each time.
func TestP2_5ManyParts(t *testing.T) {
	const many = 1_000_000
	var w Writer
	for range many {
		w.Number(7)
	}
	wantDone(t, &w, strings.Repeat("\x07", many), api.OK)
}
