package sum

import (
	"crypto/sha256"
	"encoding"
	"encoding/binary"
	"strings"
	"testing"

	"cartulary/api"
)

// pattern is n bytes in which no two blocks are alike.
func pattern(n int) string {
	b := make([]byte, n)
	for i := range b {
		b[i] = byte(i*7 + i/64*31 + i/256)
	}
	return string(b)
}

// reference is the digest that the library gives for a state, whatever its Heads.
func reference(t *testing.T, s api.State, more string) string {
	t.Helper()
	b := []byte("sha\x03")
	for _, h := range s.Heads {
		b = binary.BigEndian.AppendUint32(b, h)
	}
	b = append(b, s.Rest...)
	b = append(b, make([]byte, 64-len(s.Rest))...)
	b = binary.BigEndian.AppendUint64(b, uint64(s.Many))
	h := sha256.New()
	if err := h.(encoding.BinaryUnmarshaler).UnmarshalBinary(b); err != nil {
		t.Fatal(err)
	}
	h.Write([]byte(more))
	return string(h.Sum(nil))
}

// strangeStates are valid ones to whose Heads no known bytes lead.
func strangeStates() []api.State {
	ones := [8]uint32{}
	for i := range ones {
		ones[i] = 1<<32 - 1
	}
	return []api.State{
		{},
		{Heads: ones},
		{Heads: ones, Many: 64},
		{Heads: [8]uint32{1, 2, 3, 4, 5, 6, 7, 8}, Rest: pattern(55), Many: 64*5 + 55},
		{Heads: [8]uint32{1 << 31}, Rest: pattern(56), Many: 56},
		{Heads: ones, Rest: pattern(63), Many: 1<<60 - 1},
		{Heads: [8]uint32{7: 9}, Rest: "", Many: 1<<60 - 64},
	}
}

// badStates are not valid, each in one way.
func badStates() map[string]api.State {
	heads := Begin().Heads
	return map[string]api.State{
		"Many is -1":                 {Heads: heads, Many: -1},
		"Many is -64":                {Heads: heads, Many: -64},
		"Many is the least number":   {Heads: heads, Many: -1 << 63},
		"Many is 2^60":               {Heads: heads, Many: 1 << 60},
		"Many is 2^60 + 1":           {Heads: heads, Many: 1<<60 + 1, Rest: "a"},
		"Many is the greatest":       {Heads: heads, Many: 1<<63 - 1, Rest: pattern(63)},
		"Rest is too short":          {Heads: heads, Many: 3, Rest: "ab"},
		"Rest is too long":           {Heads: heads, Many: 3, Rest: "abcd"},
		"Rest is missing":            {Heads: heads, Many: 63},
		"Rest without Many":          {Heads: heads, Rest: "a"},
		"Rest is a block":            {Heads: heads, Many: 64, Rest: pattern(64)},
		"Rest is a block without it": {Heads: heads, Many: 0, Rest: pattern(64)},
		"Rest is over a block":       {Heads: heads, Many: 65, Rest: pattern(65)},
	}
}

func TestP1_1Begin(t *testing.T) {
	want := api.State{Heads: [8]uint32{
		0x6a09e667, 0xbb67ae85, 0x3c6ef372, 0xa54ff53a, 0x510e527f, 0x9b05688c, 0x1f83d9ab, 0x5be0cd19,
	}}
	if got := Begin(); got != want {
		t.Errorf("Begin() = %x", got)
	}
	s := Begin()
	s.Heads[0] = 0
	if got := Begin(); got != want {
		t.Errorf("Begin() after a change of its result = %x", got)
	}
}

func TestP1_3SumKnown(t *testing.T) {
	for s, want := range map[string]string{
		"":    "e3b0c44298fc1c149afbf4c8996fb92427ae41e4649b934ca495991b7852b855",
		"abc": "ba7816bf8f01cfea414140de5dae2223b00361a396177a9cb410ff61f20015ad",
		"abcdefghbcdefghicdefghijdefghijkefghijklfghijklmghijklmnhijklmnoijklmnopjklmnopqklmnopqrlmnopqrsmnopqrstnopqrstu": "cf5b16a778af8380036ce59e7b0492370b249b11e8f07a51afac45037afee9d1",
		strings.Repeat("a", 1000000): "cdc76e5c9914fb9281a1c7e284d73e67f1809a48a497200e046d39ccc7112cd0",
	} {
		if got := Hex(Sum(s)); got != want {
			t.Errorf("Sum of %d bytes = %s, want %s", len(s), got, want)
		}
	}
}

func TestP1_3SumOfAllLengths(t *testing.T) {
	all := pattern(64*4 + 20)
	for n := range len(all) + 1 {
		want := sha256.Sum256([]byte(all[:n]))
		if got := Sum(all[:n]); got != string(want[:]) {
			t.Errorf("Sum of %d bytes = %x, want %x", n, got, want)
		}
	}
}

// A length of more than 2^29 bytes has more than 32 bits in its number of bits.
func TestP1_3LengthIsEightBytes(t *testing.T) {
	for _, many := range []int{1<<29 - 64, 1 << 29, 1<<32 + 64, 1<<53 - 64, 1<<60 - 64} {
		s := api.State{Heads: Begin().Heads, Many: many}
		if got, e := End(s); e != api.OK || got != reference(t, s, "") {
			t.Errorf("End with Many = %d: %x, %d", many, got, e)
		}
	}
}

func TestP1_4Good(t *testing.T) {
	if !Good(Begin()) {
		t.Error("Begin is not valid")
	}
	for n := range 130 {
		if s := (api.State{Rest: pattern(n % 64), Many: n}); !Good(s) {
			t.Errorf("not valid: %d bytes", n)
		}
	}
	for _, s := range strangeStates() {
		if !Good(s) {
			t.Errorf("not valid: %v", s)
		}
	}
	for name, s := range badStates() {
		if Good(s) {
			t.Errorf("valid although %s", name)
		}
	}
}

func TestP1_4AddInParts(t *testing.T) {
	all := pattern(200)
	whole, e := Add(Begin(), all)
	if e != api.OK {
		t.Fatalf("Add: %d", e)
	}
	for i := range len(all) + 1 {
		for j := i; j <= len(all); j++ {
			s, e := Add(Begin(), all[:i])
			s, f := Add(s, all[i:j])
			s, g := Add(s, all[j:])
			if e != api.OK || f != api.OK || g != api.OK || s != whole {
				t.Fatalf("parts of %d, %d and %d bytes: %v; %d, %d, %d", i, j-i, len(all)-j, s, e, f, g)
			}
		}
	}
}

func TestP1_4AddByteByByte(t *testing.T) {
	all := pattern(300)
	s := Begin()
	for n := range len(all) + 1 {
		if s.Many != n || s.Rest != all[n-n%64:n] || !Good(s) {
			t.Fatalf("behind %d bytes: %v", n, s)
		}
		if got, e := End(s); e != api.OK || got != Sum(all[:n]) {
			t.Fatalf("End behind %d bytes: %x, %d", n, got, e)
		}
		if n < len(all) {
			before := s
			next, e := Add(s, all[n:n+1])
			if e != api.OK || s != before {
				t.Fatalf("Add of byte %d: %d, its argument became %v", n, e, s)
			}
			if changed := next.Heads != s.Heads; changed != (n%64 == 63) {
				t.Fatalf("Add of byte %d: other Heads: %t", n, changed)
			}
			s = next
		}
	}
}

func TestP1_4AddNothing(t *testing.T) {
	for _, s := range append(strangeStates(), Begin()) {
		if got, e := Add(s, ""); e != api.OK || got != s {
			t.Errorf("Add(%v, \"\") = %v, %d", s, got, e)
		}
	}
}

func TestP1_4AddUpToTheLimit(t *testing.T) {
	s := api.State{Heads: Begin().Heads, Rest: pattern(60), Many: 1<<60 - 4}
	got, e := Add(s, "abc")
	if want := (api.State{Heads: s.Heads, Rest: pattern(60) + "abc", Many: 1<<60 - 1}); e != api.OK || got != want {
		t.Errorf("Add to 2^60 - 1 = %v, %d", got, e)
	}
	far := api.State{Heads: Begin().Heads, Many: 1<<60 - 256}
	if got, e := Add(far, pattern(255)); e != api.OK || got.Many != 1<<60-1 || got.Rest != pattern(255)[192:] {
		t.Errorf("Add of 255 bytes to 2^60 - 1 = %v, %d", got, e)
	}
	for _, more := range []string{"abcd", "abcde", pattern(64), pattern(1000)} {
		if got, e := Add(s, more); e != api.ErrRange || got != (api.State{}) {
			t.Errorf("Add of %d bytes beyond the limit = %v, %d", len(more), got, e)
		}
	}
}

func TestP1_4BadStates(t *testing.T) {
	for name, s := range badStates() {
		for _, b := range []string{"", "a", pattern(64), pattern(200)} {
			if got, e := Add(s, b); e != api.ErrRange || got != (api.State{}) {
				t.Errorf("%s: Add of %d bytes = %v, %d", name, len(b), got, e)
			}
		}
		if got, e := End(s); e != api.ErrRange || got != "" {
			t.Errorf("%s: End = %x, %d", name, got, e)
		}
	}
}

func TestP1_4StrangeHeads(t *testing.T) {
	for _, s := range strangeStates() {
		if got, e := End(s); e != api.OK || got != reference(t, s, "") {
			t.Errorf("End(%v) = %x, %d", s, got, e)
		}
		more := pattern(150)
		if s.Many+len(more) >= 1<<60 {
			continue
		}
		next, e := Add(s, more)
		if got, f := End(next); e != api.OK || f != api.OK || got != reference(t, s, more) {
			t.Errorf("End of Add(%v) = %x, %d, %d", s, got, e, f)
		}
	}
}

func TestP1_4EndOfBegin(t *testing.T) {
	if got, e := End(Begin()); e != api.OK || got != Sum("") {
		t.Errorf("End(Begin()) = %x, %d", got, e)
	}
}

func BenchmarkSum(b *testing.B) {
	text := pattern(8192)
	b.SetBytes(int64(len(text)))
	for range b.N {
		Sum(text)
	}
}
