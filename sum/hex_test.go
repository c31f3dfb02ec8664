package sum

import (
	"encoding/hex"
	"testing"

	"cartulary/api"
)

func TestP1_6Hex(t *testing.T) {
	for b, want := range map[string]string{
		"":             "",
		"\x0a":         "0a",
		"\xa0":         "a0",
		"\x00\xffz":    "00ff7a",
		"\xc3\xa9\xff": "c3a9ff",
	} {
		if got := Hex(b); got != want {
			t.Errorf("Hex(%q) = %q, want %q", b, got, want)
		}
	}
}

func TestP1_6HexAndBack(t *testing.T) {
	all := pattern(300)
	for c := range 256 {
		all += string([]byte{byte(c)})
	}
	for n := range len(all) + 1 {
		b := all[len(all)-n:]
		s := Hex(b)
		if s != hex.EncodeToString([]byte(b)) {
			t.Fatalf("Hex of %d bytes = %s", n, s)
		}
		if got, e := Unhex(s); e != api.OK || got != b {
			t.Fatalf("Unhex(%q) = %q, %d", s, got, e)
		}
	}
}

// Of all strings of two bytes just 256 are what Hex returns.
func TestP1_6UnhexOfAllPairs(t *testing.T) {
	bytesOf := map[string]string{}
	for c := range 256 {
		b := string([]byte{byte(c)})
		bytesOf[Hex(b)] = b
	}
	if len(bytesOf) != 256 {
		t.Fatalf("Hex returns %d strings for 256 bytes", len(bytesOf))
	}
	for high := range 256 {
		for low := range 256 {
			s := string([]byte{byte(high), byte(low)})
			want, ok := bytesOf[s]
			got, e := Unhex(s)
			if ok && (e != api.OK || got != want) || !ok && (e != api.ErrForm || got != "") {
				t.Errorf("Unhex(%q) = %q, %d", s, got, e)
			}
		}
	}
}

func TestP1_6UnhexWrong(t *testing.T) {
	for _, s := range []string{
		"0", "a", "000", "0a0", "0A", "A0", "FF", "0g", "g0", "0x", " 0", "0 ", "00 ", " 00", "-1", "+1",
		"00f", "00fg", "fg00", "00ffG0", "0\x00", "\x00", "é", "0é1", "٣٣", "00\n", "0:", "0/", "0`", "0@",
	} {
		if got, e := Unhex(s); e != api.ErrForm || got != "" {
			t.Errorf("Unhex(%q) = %q, %d", s, got, e)
		}
	}
}

func TestP1_6UnhexOfNothing(t *testing.T) {
	if got, e := Unhex(""); e != api.OK || got != "" {
		t.Errorf("Unhex(\"\") = %q, %d", got, e)
	}
}
