package wire

import (
	"encoding/binary"
	"math"
	"math/rand"
	"strings"
	"testing"

	"cartulary/api"
)

// uvarint is another way to the same encoding.
func uvarint(n int) string {
	return string(binary.AppendUvarint(nil, uint64(n)))
}

// numbers are those about every power of two in the range, its two ends, and some between.
func numbers() []int {
	list := []int{0, 300, numberLimit - 1}
	for shift := range 62 {
		for _, n := range []int{1<<shift - 1, 1 << shift, 1<<shift + 1} {
			list = append(list, n)
		}
	}
	source := rand.New(rand.NewSource(2))
	for range 1000 {
		list = append(list, int(source.Uint64()>>(2+source.Intn(62))))
	}
	return list
}

func wantText(t *testing.T, call, got string, bad api.Errno, want string, wantBad api.Errno) {
	t.Helper()
	if got != want || bad != wantBad {
		t.Errorf("%s = %.40q (%d bytes), %d, want %.40q (%d bytes), %d", call, got, len(got), bad, want, len(want), wantBad)
	}
}

func TestP2_1Put(t *testing.T) {
	for n, want := range map[int]string{
		0:               "\x00",
		1:               "\x01",
		127:             "\x7f",
		128:             "\x80\x01",
		300:             "\xac\x02",
		1<<14 - 1:       "\xff\x7f",
		1 << 14:         "\x80\x80\x01",
		1<<56 - 1:       "\xff\xff\xff\xff\xff\xff\xff\x7f",
		1 << 56:         "\x80\x80\x80\x80\x80\x80\x80\x80\x01",
		numberLimit - 1: "\xff\xff\xff\xff\xff\xff\xff\xff\x3f",
	} {
		got, bad := Put("", n)
		wantText(t, "Put", got, bad, want, api.OK)
	}
}

func TestP2_1PutFollowsWhatIsThere(t *testing.T) {
	for _, b := range []string{"", "p", "\x80", "\x00\xff", strings.Repeat("long", 5000)} {
		for _, n := range numbers() {
			got, bad := Put(b, n)
			wantText(t, "Put", got, bad, b+uvarint(n), api.OK)
		}
	}
}

func TestP2_1PutOutOfRange(t *testing.T) {
	for _, n := range []int{-1, -2, -128, -numberLimit, math.MinInt, numberLimit, numberLimit + 1, math.MaxInt} {
		for _, b := range []string{"", "before"} {
			got, bad := Put(b, n)
			wantText(t, "Put", got, bad, "", api.ErrRange)
		}
	}
}

func TestP2_1PutText(t *testing.T) {
	got, bad := PutText("", "a")
	wantText(t, "PutText", got, bad, "\x01a", api.OK)
	for _, length := range []int{0, 1, 2, 127, 128, 129, 300, api.MaxText - 1, api.MaxText} {
		for _, b := range []string{"", "\xffbefore"} {
			s := strings.Repeat("\xe9\x00", length)[:length]
			got, bad := PutText(b, s)
			wantText(t, "PutText", got, bad, b+uvarint(length)+s, api.OK)
		}
	}
}

func TestP2_1PutTextTooLong(t *testing.T) {
	for _, length := range []int{api.MaxText + 1, api.MaxText + 2, 2 * api.MaxText, 100_000} {
		got, bad := PutText("before", strings.Repeat("x", length))
		wantText(t, "PutText", got, bad, "", api.ErrLong)
	}
	// What stands before the text may be as long as it likes.
	b := strings.Repeat("b", 3*api.MaxText)
	got, bad := PutText(b, "a")
	wantText(t, "PutText", got, bad, b+"\x01a", api.OK)
}

func wantNumber(t *testing.T, b string, want, wantSize int, wantBad api.Errno) {
	t.Helper()
	if n, size, bad := Get(b); n != want || size != wantSize || bad != wantBad {
		t.Errorf("Get(%q) = %d, %d, %d, want %d, %d, %d", b, n, size, bad, want, wantSize, wantBad)
	}
}

func TestP2_2Get(t *testing.T) {
	wantNumber(t, "\x01x", 1, 1, api.OK)
	wantNumber(t, "\xac\x02", 300, 2, api.OK)
	wantNumber(t, "\x00\x00", 0, 1, api.OK)
	for _, n := range numbers() {
		for _, behind := range []string{"", "x", "\x00", "\x80", "\xff\xff"} {
			wantNumber(t, uvarint(n)+behind, n, len(uvarint(n)), api.OK)
		}
	}
}

func TestP2_2GetNotTerminated(t *testing.T) {
	for length := range 12 {
		wantNumber(t, strings.Repeat("\x80", length), 0, 0, api.ErrForm)
		wantNumber(t, strings.Repeat("\xff", length), 0, 0, api.ErrForm)
	}
	for _, n := range numbers() {
		s := uvarint(n)
		wantNumber(t, s[:len(s)-1], 0, 0, api.ErrForm)
	}
}

func TestP2_2GetLongerThanNecessary(t *testing.T) {
	for _, n := range numbers() {
		s := []byte(uvarint(n))
		s[len(s)-1] |= 0x80
		for zeros := range 4 {
			overlong := string(s) + strings.Repeat("\x80", zeros) + "\x00"
			wantNumber(t, overlong, 0, 0, api.ErrForm)
			wantNumber(t, overlong+"\x01", 0, 0, api.ErrForm)
		}
	}
}

func TestP2_2GetTooGreat(t *testing.T) {
	for _, n := range []uint64{numberLimit, numberLimit + 1, math.MaxInt64, 1 << 63, 1<<63 + 5, math.MaxUint64} {
		s := string(binary.AppendUvarint(nil, n))
		wantNumber(t, s, 0, 0, api.ErrForm)
		wantNumber(t, s+"x", 0, 0, api.ErrForm)
	}
	// A number whose low bits alone would be in the range.
	wantNumber(t, strings.Repeat("\x81", 9)+"\x02", 0, 0, api.ErrForm)
	wantNumber(t, strings.Repeat("\x81", 10)+"\x01", 0, 0, api.ErrForm)
	wantNumber(t, strings.Repeat("\x81", 100_000)+"\x01", 0, 0, api.ErrForm)
}

// Get finds a number in bytes just where Put of that number makes their beginning.
func TestP2_2GetOfAllShortStrings(t *testing.T) {
	for first := range 256 {
		for second := range 256 {
			for _, third := range []byte{0, 1, 0x7f, 0x80, 0xff} {
				b := string([]byte{byte(first), byte(second), third})
				n, size, bad := Get(b)
				if bad != api.OK {
					wantNumber(t, b, 0, 0, api.ErrForm)
					_, standard := binary.Uvarint([]byte(b))
					if standard > 0 && (standard == 1 || b[standard-1] != 0) {
						t.Errorf("Get(%q) finds nothing", b)
					}
				} else if size < 1 || size > len(b) || uvarint(n) != b[:size] {
					t.Errorf("Get(%q) = %d, %d", b, n, size)
				}
			}
		}
	}
}

func wantGetText(t *testing.T, b, want string, wantSize int, wantBad api.Errno) {
	t.Helper()
	if s, size, bad := GetText(b); s != want || size != wantSize || bad != wantBad {
		t.Errorf("GetText(%.40q) = %.40q, %d, %d, want %.40q, %d, %d", b, s, size, bad, want, wantSize, wantBad)
	}
}

func TestP2_3GetText(t *testing.T) {
	wantGetText(t, "\x01ab", "a", 2, api.OK)
	wantGetText(t, "\x00", "", 1, api.OK)
	wantGetText(t, "\x00ab", "", 1, api.OK)
	for _, length := range []int{0, 1, 2, 126, 127, 128, 129, 300, api.MaxText - 1, api.MaxText} {
		s := strings.Repeat("\x00\xffz", length)[:length]
		b, bad := PutText("", s)
		wantText(t, "PutText", b, bad, b, api.OK)
		wantGetText(t, b, s, len(b), api.OK)
		wantGetText(t, b+"behind", s, len(b), api.OK)
	}
}

func TestP2_3GetTextWithoutLength(t *testing.T) {
	for _, b := range []string{
		"", "\x80", "\xff\xff", "\x81\x00a", "\x80\x00",
		strings.Repeat("\xff", 8) + "\x40" + strings.Repeat("a", 5000),
		strings.Repeat("\x80", 9) + "\x01" + strings.Repeat("a", 5000),
	} {
		wantGetText(t, b, "", 0, api.ErrForm)
	}
}

// That a length is too great is told ahead of bytes that are lacking.
func TestP2_3GetTextTooLong(t *testing.T) {
	for _, length := range []int{api.MaxText + 1, api.MaxText + 2, 1 << 20, 1 << 40, numberLimit - 1} {
		wantGetText(t, uvarint(length), "", 0, api.ErrLong)
		wantGetText(t, uvarint(length)+"ab", "", 0, api.ErrLong)
		wantGetText(t, uvarint(length)+strings.Repeat("a", api.MaxText+2), "", 0, api.ErrLong)
	}
}

func TestP2_3GetTextWithFewerBytes(t *testing.T) {
	for _, length := range []int{1, 2, 127, 128, 300, api.MaxText} {
		for _, there := range []int{0, 1, length / 2, length - 1} {
			if there < length {
				wantGetText(t, uvarint(length)+strings.Repeat("a", there), "", 0, api.ErrForm)
			}
		}
	}
}

func FuzzP2_2Get(f *testing.F) {
	f.Add("\xac\x02")
	f.Fuzz(func(t *testing.T, b string) {
		n, size, bad := Get(b)
		if bad == api.OK && (size > len(b) || uvarint(n) != b[:size]) || bad != api.OK && (n != 0 || size != 0) {
			t.Errorf("Get(%q) = %d, %d, %d", b, n, size, bad)
		}
		s, size, bad := GetText(b)
		if bad == api.OK && (size > len(b) || uvarint(len(s))+s != b[:size]) || bad != api.OK && (s != "" || size != 0) {
			t.Errorf("GetText(%q) = %q, %d, %d", b, s, size, bad)
		}
	})
}
