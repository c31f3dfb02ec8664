package sum

import (
	"crypto/hmac"
	"crypto/sha256"
	"strings"
	"testing"
)

// Examples of RFC 4231, which tells only 16 bytes of the one with truncation.
func TestP1_5SealKnown(t *testing.T) {
	for _, c := range []struct{ key, b, want string }{
		{strings.Repeat("\x0b", 20), "Hi There",
			"b0344c61d8db38535ca8afceaf0bf12b881dc200c9833da726e9376c2e32cff7"},
		{"Jefe", "what do ya want for nothing?",
			"5bdcc146bf60754e6a042426089575c75a003f089d2739839dec58b964ec3843"},
		{strings.Repeat("\xaa", 20), strings.Repeat("\xdd", 50),
			"773ea91e36800e46854db8ebd09181a72959098b3ef8c122d9635514ced565fe"},
		{strings.Repeat("\x0c", 20), "Test With Truncation",
			"a3b6167473100ee06e0c796c2955552b"},
		{strings.Repeat("\xaa", 131), "Test Using Larger Than Block-Size Key - Hash Key First",
			"60e431591ee0b67f0d8a26aacbf5b77f8e0bc6213728c5140546040f0ee37f54"},
	} {
		if got := Hex(Seal(c.key, c.b)); len(got) != 64 || !strings.HasPrefix(got, c.want) {
			t.Errorf("Seal(%q, %q) = %s, want %s", c.key, c.b, got, c.want)
		}
	}
}

// Keys of 63, 64 and 65 bytes, and of none, are the edges.
func TestP1_5SealOfAllLengths(t *testing.T) {
	for n := range 140 {
		key := pattern(n)
		for _, b := range []string{"", "a", pattern(55), pattern(64), pattern(200)} {
			h := hmac.New(sha256.New, []byte(key))
			h.Write([]byte(b))
			if got, want := Seal(key, b), string(h.Sum(nil)); got != want {
				t.Errorf("Seal with %d and %d bytes = %x, want %x", n, len(b), got, want)
			}
		}
	}
}

func TestP1_5ShortKeyIsPadded(t *testing.T) {
	if Seal("k", "b") != Seal("k"+strings.Repeat("\x00", 63), "b") {
		t.Error("a short key is not padded with zero bytes")
	}
	long := pattern(65)
	if Seal(long, "b") != Seal(Sum(long), "b") {
		t.Error("a key of more than 64 bytes is not replaced by its Sum")
	}
	whole := pattern(64)
	if Seal(whole, "b") == Seal(Sum(whole), "b") {
		t.Error("a key of 64 bytes is replaced by its Sum")
	}
}
