package step

import (
	"math"
	"math/rand"
	"strings"
	"testing"

	"cartulary/api"
)

func wantBody(t *testing.T, at int, s api.Step, want string, wantBad api.Errno) {
	t.Helper()
	if got, bad := Body(at, s); got != want || bad != wantBad {
		t.Errorf("Body of %s at %d = %.300q, %d, want %.300q, %d", describe(s), at, got, bad, want, wantBad)
	}
}

func wantEncode(t *testing.T, s api.Step, want string, wantBad api.Errno) {
	t.Helper()
	if got, bad := Encode(s); got != want || bad != wantBad {
		t.Errorf("Encode of %s = %.300q, %d, want %.300q, %d", describe(s), got, bad, want, wantBad)
	}
}

func wantDecode(t *testing.T, b string, want api.Step, wantBad api.Errno) {
	t.Helper()
	if got, bad := Decode(b); !sameStep(got, want) || bad != wantBad {
		t.Errorf("Decode(%.300q) = %s, %d, want %s, %d", b, describe(got), bad, describe(want), wantBad)
	}
}

func wantNoDecode(t *testing.T, b string, want api.Errno) {
	t.Helper()
	wantDecode(t, b, api.Step{}, want)
}

func TestP10_2Body(t *testing.T) {
	old, id := made("old"), made("new")
	wantBody(t, 0, change("main", "", id), "\x00\x04main\x00\x20"+id, api.OK)
	wantBody(t, 1, change("main", old, id), "\x01\x04main\x20"+old+"\x20"+id, api.OK)
	wantBody(t, 127, change("a/b", old, ""), "\x7f\x03a/b\x20"+old+"\x00", api.OK)
	wantBody(t, 128, change("a/b", old, ""), "\x80\x01\x03a/b\x20"+old+"\x00", api.OK)
	for _, s := range rightSteps() {
		for at := range api.MaxLog {
			wantBody(t, at, s, bodyOf(at, s), api.OK)
		}
	}
}

// What Good asks for is none of the body's concern.
func TestP10_2BodyOfWrongSteps(t *testing.T) {
	wantBody(t, 7, api.Step{}, "\x07\x00\x00\x00", api.OK)
	wantBody(t, 7, api.Step{Ref: "/", Old: "o", New: "o", Who: []int{9}}, "\x07\x01/\x01o\x01o", api.OK)
	long := strings.Repeat("s", api.MaxText+1)
	wantBody(t, 7, api.Step{Ref: "a", Seals: []string{long, long}}, "\x07\x01a\x00\x00", api.OK)
}

// Who has signed is no part of what is signed.
func TestP10_2BodyWithoutSeals(t *testing.T) {
	for _, s := range rightSteps() {
		wantBody(t, 5, s, bodyOf(5, change(s.Ref, s.Old, s.New)), api.OK)
	}
}

func TestP10_2BodyOutOfRange(t *testing.T) {
	for _, at := range []int{-1, -2, math.MinInt, api.MaxLog, api.MaxLog + 1, 256, 1 << 32, 1 << 62, math.MaxInt} {
		wantBody(t, at, plain(), "", api.ErrRange)
		wantBody(t, at, api.Step{}, "", api.ErrRange)
		wantBody(t, at, change(strings.Repeat("s", api.MaxText+1), "", ""), "", api.ErrRange)
	}
}

func TestP10_2BodyTooLong(t *testing.T) {
	for _, n := range []int{api.MaxText - 1, api.MaxText, api.MaxText + 1, 2 * api.MaxText, 1 << 20} {
		long := strings.Repeat("\xfft", n)[:n]
		for _, s := range []api.Step{change(long, "", ""), change("main", long, made("new")), change("main", made("old"), long), change(long, long, long)} {
			for _, at := range []int{0, 1, api.MaxLog - 1} {
				if n <= api.MaxText {
					wantBody(t, at, s, bodyOf(at, s), api.OK)
				} else {
					wantBody(t, at, s, "", api.ErrLong)
				}
			}
		}
	}
}

func TestP10_3Encode(t *testing.T) {
	id, seal, other := made("new"), made("seal 2"), made("seal 5")
	wantEncode(t, change("main", "", id), "\x04main\x00\x20"+id+"\x00", api.OK)
	wantEncode(t, change("a/b", id, ""), "\x03a/b\x20"+id+"\x00\x00", api.OK)
	wantEncode(t, withSigners(change("main", "", id), 2, 5), "\x04main\x00\x20"+id+"\x02"+"\x02"+seal+"\x05"+other, api.OK)
	for _, s := range rightSteps() {
		wantEncode(t, s, encodingOf(s), api.OK)
	}
	for _, e := range wrongSteps() {
		wantEncode(t, e.step, "", e.want)
	}
}

func TestP10_3Decode(t *testing.T) {
	for _, s := range rightSteps() {
		wantDecode(t, encodingOf(s), s, api.OK)
	}
}

func TestP10_3DecodeOfBeginnings(t *testing.T) {
	for _, s := range rightSteps() {
		b := encodingOf(s)
		for n := range len(b) {
			wantNoDecode(t, b[:n], api.ErrForm)
		}
	}
}

func TestP10_3DecodeOfFurtherBytes(t *testing.T) {
	for _, s := range rightSteps() {
		for _, more := range []string{"\x00", "x", "\x80", made("more"), "\x07" + made("more"), encodingOf(s)} {
			wantNoDecode(t, encodingOf(s)+more, api.ErrForm)
		}
	}
}

func TestP10_3DecodeOfOtherNumbers(t *testing.T) {
	id, seal := made("new"), made("seal")
	for _, b := range []string{
		// Longer than necessary.
		"\x84\x00main\x00\x20" + id + "\x00", "\x04main\x80\x00\x20" + id + "\x00", "\x04main\x00\xa0\x00" + id + "\x00",
		"\x04main\x00\x20" + id + "\x80\x00", "\x04main\x00\x20" + id + "\x81\x00\x01" + seal, "\x04main\x00\x20" + id + "\x01\x81\x00" + seal,
		// Too great for a number.
		strings.Repeat("\xff", 8) + "\x40main\x00\x20" + id + "\x00", "\x04main\x00\x20" + id + strings.Repeat("\xff", 8) + "\x40",
		"\x04main\x00\x20" + id + "\x01" + strings.Repeat("\xff", 8) + "\x40" + seal,
	} {
		wantNoDecode(t, b, api.ErrForm)
	}
}

// A number of seals that no bytes could hold is answered at once.
func TestP10_3DecodeOfGreatCounts(t *testing.T) {
	start := "\x04main\x00\x20" + made("new")
	for _, many := range []int{1, 2, 8, 9, 127, 128, 1 << 20, 1 << 40, 1<<62 - 1} {
		wantNoDecode(t, start+number(many), api.ErrForm)
		wantNoDecode(t, start+number(many)+"\x00", api.ErrForm)
		wantNoDecode(t, start+number(many)+"\x00"+made("seal")[1:], api.ErrForm)
		wantNoDecode(t, start+number(many+1)+strings.Repeat("\x00"+made("seal"), min(many, 1000)), api.ErrForm)
	}
}

// A string of more than MaxText bytes is not encoded as package wire encodes strings.
func TestP10_3DecodeOfLongTexts(t *testing.T) {
	id := made("new")
	for _, length := range []int{api.MaxText + 1, 2 * api.MaxText, 1 << 20} {
		long := text(strings.Repeat("l", length))
		wantNoDecode(t, long+"\x00\x20"+id+"\x00", api.ErrForm)
		wantNoDecode(t, "\x04main"+long+"\x20"+id+"\x00", api.ErrForm)
		wantNoDecode(t, "\x04main\x00"+long+"\x00", api.ErrForm)
		wantNoDecode(t, number(length), api.ErrForm)
	}
	most := strings.Repeat("l", api.MaxText)
	wantNoDecode(t, encodingOf(change(most, most, "")), api.ErrForm)
}

// What is encoded like a step but is not valid has the error of Good, behind that of the form.
func TestP10_3DecodeOfWrongSteps(t *testing.T) {
	for _, e := range []example{
		{withSigners(plain(), 8), api.ErrRange}, {withSigners(plain(), 1<<62-1), api.ErrRange}, {withSigners(plain(), 3, 3), api.ErrRange},
		{withSigners(plain(), 3, 2), api.ErrRange}, {withSigners(plain(), 0, 1, 2, 3, 4, 5, 6, 8), api.ErrRange},
		{withSigners(plain(), 0, 1, 2, 3, 4, 5, 6, 7, 8), api.ErrFull}, {withSigners(plain(), make([]int, 5000)...), api.ErrFull},
		{api.Step{}, api.ErrForm}, {change("/", "", made("new")), api.ErrForm}, {change("main", "x", made("new")), api.ErrForm},
		{change("main", made("a"), made("a")), api.ErrForm}, {change("main", "", "x"), api.ErrForm},
		{withSigners(change("Main", "", made("new")), make([]int, 9)...), api.ErrForm}, {withSigners(change("main", "", ""), 9, 9), api.ErrForm},
	} {
		wantGood(t, e.step, e.want)
		b := encodingOf(e.step)
		wantNoDecode(t, b, e.want)
		wantNoDecode(t, b+"\x00", api.ErrForm)
		wantNoDecode(t, b[:len(b)-1], api.ErrForm)
	}
}

// slowDecode is another way to Decode: it tells what must be the step by the bytes' places alone, and encodes that anew.
func slowDecode(b string) (api.Step, api.Errno) {
	var s api.Step
	rest, ok := b, true
	take := func(n int) string {
		if n > len(rest) {
			ok = false
			return ""
		}
		piece := rest[:n]
		rest = rest[n:]
		return piece
	}
	num := func() int {
		n := 0
		for shift := 0; ok; shift += 7 {
			c := take(1)
			if !ok || shift > 56 {
				ok = false
				return 0
			}
			n |= int(c[0]&127) << shift
			if c[0] < 128 {
				break
			}
		}
		return n
	}
	s.Ref, s.Old, s.New = take(num()), take(num()), take(num())
	for many := num(); ok && len(s.Who) < many; {
		s.Who, s.Seals = append(s.Who, num()), append(s.Seals, take(32))
	}
	if !ok || max(len(s.Ref), len(s.Old), len(s.New)) > 4096 || encodingOf(s) != b {
		return api.Step{}, api.ErrForm
	}
	if bad := Good(s); bad != api.OK {
		return api.Step{}, bad
	}
	return s, api.OK
}

// Changed encodings, against the other way.
func TestP10_3DecodeByChance(t *testing.T) {
	random := rand.New(rand.NewSource(103))
	seen := map[api.Errno]int{}
	steps := append(rightSteps(), withSigners(plain(), 0, 1, 2, 3, 4, 5, 6, 7, 8), withSigners(plain(), 5, 5), change("A", "", ""))
	for range 100000 {
		b := []byte(encodingOf(steps[random.Intn(len(steps))]))
		for range random.Intn(3) {
			i := random.Intn(len(b))
			switch random.Intn(4) {
			case 0:
				b[i] = byte(random.Intn(256))
			case 1:
				b[i] += byte(random.Intn(3)) - 1
			case 2:
				b = append(b[:i:i], b[i+1:]...)
			case 3:
				b = append(b[:i:i], append([]byte{byte(random.Intn(130))}, b[i:]...)...)
			}
		}
		want, wantBad := slowDecode(string(b))
		wantDecode(t, string(b), want, wantBad)
		if t.Failed() {
			return
		}
		if wantBad == api.OK {
			wantEncode(t, want, string(b), api.OK)
		}
		seen[wantBad]++
	}
	for _, bad := range []api.Errno{api.OK, api.ErrForm, api.ErrRange, api.ErrFull} {
		if seen[bad] < 100 {
			t.Errorf("error %d was met %d times", bad, seen[bad])
		}
	}
}

func FuzzP10_3Decode(f *testing.F) {
	for _, s := range rightSteps() {
		f.Add(encodingOf(s))
	}
	f.Fuzz(func(t *testing.T, b string) {
		want, wantBad := slowDecode(b)
		wantDecode(t, b, want, wantBad)
	})
}
