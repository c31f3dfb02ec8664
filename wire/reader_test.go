package wire

import (
	"math"
	"strings"
	"testing"

	"cartulary/api"
)

func wantReader(t *testing.T, r *Reader, left int, bad api.Errno) {
	t.Helper()
	if r.Left() != left || r.Bad() != bad {
		t.Fatalf("Left, Bad = %d, %d, want %d, %d", r.Left(), r.Bad(), left, bad)
	}
}

// wantNothing asks every method that consumes: none of them answers, nor changes what is left or what is wrong.
func wantNothing(t *testing.T, r *Reader) {
	t.Helper()
	left, bad := r.Left(), r.Bad()
	for range 2 {
		for _, n := range []int{0, 1, left, left + 1, -1} {
			if s := r.Bytes(n); s != "" {
				t.Fatalf("Bytes(%d) = %q behind an error", n, s)
			}
		}
		if n := r.Number(); n != 0 {
			t.Fatalf("Number() = %d behind an error", n)
		}
		if s := r.Text(); s != "" {
			t.Fatalf("Text() = %q behind an error", s)
		}
		wantReader(t, r, left, bad)
	}
}

func TestP2_4ReaderConsumesInOrder(t *testing.T) {
	r := Read("\xac\x02" + "\x02hi" + "raw" + "\x00" + "\x00" + "\x07")
	wantReader(t, r, 11, api.OK)
	for i, part := range []struct {
		good func() bool
		left int
	}{
		{func() bool { return r.Number() == 300 }, 9},
		{func() bool { return r.Text() == "hi" }, 6},
		{func() bool { return r.Bytes(0) == "" }, 6},
		{func() bool { return r.Bytes(3) == "raw" }, 3},
		{func() bool { return r.Text() == "" }, 2},
		{func() bool { return r.Number() == 0 }, 1},
		{func() bool { return r.Number() == 7 }, 0},
		{func() bool { return r.Bytes(0) == "" }, 0},
	} {
		if !part.good() {
			t.Errorf("part %d is read as another one", i)
		}
		wantReader(t, r, part.left, api.OK)
	}
}

func TestP2_4NumberBehindTheEnd(t *testing.T) {
	r := Read("\x05")
	if n := r.Number(); n != 5 {
		t.Errorf("Number() = %d", n)
	}
	wantReader(t, r, 0, api.OK)
	if n := r.Number(); n != 0 {
		t.Errorf("second Number() = %d", n)
	}
	wantReader(t, r, 0, api.ErrForm)
	wantNothing(t, r)
}

func TestP2_4NumberThatIsNone(t *testing.T) {
	for _, b := range []string{
		"", "\x80", "\x80\x00", "\x81\x80\x00ab", "\xff\xff", strings.Repeat("\xff", 8) + "\x40\x01a",
	} {
		r := Read(b)
		if n := r.Number(); n != 0 {
			t.Errorf("Read(%q).Number() = %d", b, n)
		}
		wantReader(t, r, len(b), api.ErrForm)
		wantNothing(t, r)
	}
}

// Of a text that cannot be read not even the length is consumed.
func TestP2_4TextThatIsNone(t *testing.T) {
	for b, want := range map[string]api.Errno{
		"":                       api.ErrForm,
		"\x80":                   api.ErrForm,
		"\x80\x00":               api.ErrForm,
		"\x02a":                  api.ErrForm,
		"\x81\x00a":              api.ErrForm,
		uvarint(api.MaxText):     api.ErrForm,
		uvarint(api.MaxText + 1): api.ErrLong,
		uvarint(numberLimit - 1): api.ErrLong,
		uvarint(api.MaxText+1) + strings.Repeat("a", api.MaxText+1): api.ErrLong,
	} {
		r := Read(b)
		if s := r.Text(); s != "" {
			t.Errorf("Read(%.20q).Text() = %.20q", b, s)
		}
		wantReader(t, r, len(b), want)
		wantNothing(t, r)
	}
}

func TestP2_4Text(t *testing.T) {
	for _, length := range []int{0, 1, 127, 128, api.MaxText} {
		s := strings.Repeat("t", length)
		r := Read(uvarint(length) + s + "\x01a")
		if got := r.Text(); got != s {
			t.Errorf("Text() = %d bytes, want %d", len(got), length)
		}
		wantReader(t, r, 2, api.OK)
		if got := r.Text(); got != "a" {
			t.Errorf("second Text() = %q", got)
		}
	}
}

func TestP2_4Bytes(t *testing.T) {
	r := Read("ab")
	if first, second := r.Bytes(1), r.Bytes(1); first != "a" || second != "b" {
		t.Errorf("Bytes(1) = %q, then %q", first, second)
	}
	wantReader(t, r, 0, api.OK)
	// A text has a limit; plain bytes have none.
	long := strings.Repeat("l", 10*api.MaxText)
	if s := Read(long).Bytes(len(long)); s != long {
		t.Errorf("Bytes(%d) = %d bytes", len(long), len(s))
	}
}

func TestP2_4BytesThatAreNone(t *testing.T) {
	for _, n := range []int{-1, -2, math.MinInt, 4, 5, math.MaxInt} {
		r := Read("\x01ab")
		if s := r.Bytes(n); s != "" {
			t.Errorf("Bytes(%d) = %q", n, s)
		}
		wantReader(t, r, 3, api.ErrForm)
		wantNothing(t, r)
	}
	r := Read("")
	if s := r.Bytes(1); s != "" {
		t.Errorf("Bytes(1) of nothing = %q", s)
	}
	wantReader(t, r, 0, api.ErrForm)
}

func TestP2_4FirstErrorIsKept(t *testing.T) {
	r := Read(uvarint(api.MaxText+1) + "\x00\x80")
	r.Text()
	wantReader(t, r, 4, api.ErrLong)
	wantNothing(t, r)
	r = Read(uvarint(api.MaxText+1) + "a")
	r.Bytes(-1)
	wantReader(t, r, 3, api.ErrForm)
	wantNothing(t, r)
}

func TestP2_4NoBytes(t *testing.T) {
	wantReader(t, Read(""), 0, api.OK)
	wantReader(t, new(Reader), 0, api.OK)
}

func TestP2_4NilReader(t *testing.T) {
	var none *Reader
	wantReader(t, none, 0, api.ErrForm)
	wantNothing(t, none)
}

func TestP2_4ReadersAreApart(t *testing.T) {
	b := "\x01\x02\x03"
	first, second := Read(b), Read(b)
	first.Number()
	first.Bytes(9)
	third := *second
	if n := second.Number(); n != 1 {
		t.Errorf("Number() = %d", n)
	}
	wantReader(t, first, 2, api.ErrForm)
	wantReader(t, second, 2, api.OK)
	wantReader(t, &third, 3, api.OK)
}
