package step

import (
	"crypto/hmac"
	"crypto/sha256"
	"encoding/binary"
	"fmt"
	"math/bits"
	"slices"
	"strconv"
	"strings"
	"testing"

	"cartulary/api"
)

// made is an id, or a seal that nobody has made, that can be read.
func made(s string) string {
	return s + strings.Repeat("=", 32-len(s))
}

// number is another way to the encoding of a number.
func number(n int) string {
	return string(binary.AppendUvarint(nil, uint64(n)))
}

func text(s string) string {
	return number(len(s)) + s
}

// bodyOf is another way to the body.
func bodyOf(at int, s api.Step) string {
	return number(at) + text(s.Ref) + text(s.Old) + text(s.New)
}

// encodingOf is another way to the encoding; it also encodes what is not valid.
func encodingOf(s api.Step) string {
	b := text(s.Ref) + text(s.Old) + text(s.New) + number(len(s.Seals))
	for i, seal := range s.Seals {
		b += number(s.Who[i]) + seal
	}
	return b
}

// sealOf is another way to the seal.
func sealOf(key, body string) string {
	h := hmac.New(sha256.New, []byte(key))
	h.Write([]byte(body))
	return string(h.Sum(nil))
}

// keyOf is the key of a signer; some are longer than a block of the sum.
func keyOf(who int) string {
	return strings.Repeat("key of "+strconv.Itoa(who), 1+5*(who%3))
}

// keysOf are the keys of so many signers.
func keysOf(many, need int) api.Keys {
	k := api.Keys{Need: need}
	for who := range many {
		k.Signers = append(k.Signers, keyOf(who))
	}
	return k
}

// change is a step without seals.
func change(ref, old, id string) api.Step {
	return api.Step{Ref: ref, Old: old, New: id}
}

// plain is a step without seals that changes main.
func plain() api.Step {
	return change("main", made("old"), made("new"))
}

// sealedBy is a step with the seals of these signers, put together without Sign.
func sealedBy(s api.Step, at int, signers ...int) api.Step {
	s.Who, s.Seals = nil, nil
	for _, who := range signers {
		s.Who = append(s.Who, who)
		s.Seals = append(s.Seals, sealOf(keyOf(who), bodyOf(at, s)))
	}
	return s
}

// signersIn are those whose bit is set.
func signersIn(set uint) []int {
	var signers []int
	for ; set != 0; set &= set - 1 {
		signers = append(signers, bits.TrailingZeros(set))
	}
	return signers
}

// clone shares no memory with a step.
func clone(s api.Step) api.Step {
	s.Who, s.Seals = slices.Clone(s.Who), slices.Clone(s.Seals)
	return s
}

// changed is a step with something else in it.
func changed(s api.Step, do func(s *api.Step)) api.Step {
	s = clone(s)
	do(&s)
	return s
}

func sameStep(a, b api.Step) bool {
	return a.Ref == b.Ref && a.Old == b.Old && a.New == b.New && slices.Equal(a.Who, b.Who) && slices.Equal(a.Seals, b.Seals)
}

func describe(s api.Step) string {
	return fmt.Sprintf("%.100q from %.100q to %.100q by %.100v with %.400q", s.Ref, s.Old, s.New, s.Who, s.Seals)
}

// rightSteps are valid, up to what may just be; their seals are none.
func rightSteps() []api.Step {
	steps := []api.Step{
		change("a", "", made("new")), change("a", made("old"), ""), plain(), change(strings.Repeat("n", api.MaxName), made("old"), made("new")),
		change("a/b-c_9", strings.Repeat("\x00", 32), strings.Repeat("\xff", 32)), change("-", made("a"), made("b")),
	}
	for _, signers := range [][]int{{0}, {7}, {0, 1}, {0, 7}, {3, 5, 6}, {0, 1, 2, 3, 4, 5, 6}, {1, 2, 3, 4, 5, 6, 7}, {0, 1, 2, 3, 4, 5, 6, 7}} {
		steps = append(steps, withSigners(plain(), signers...))
	}
	return append(steps, changed(withSigners(plain(), 2, 4), func(s *api.Step) { s.Seals[0], s.Seals[1] = strings.Repeat("\x00", 32), strings.Repeat("\x00", 32) }))
}

// withSigners is a step with seals that nobody has made.
func withSigners(s api.Step, signers ...int) api.Step {
	s.Who, s.Seals = slices.Clone(signers), nil
	for _, who := range signers {
		s.Seals = append(s.Seals, made("seal "+strconv.Itoa(who)))
	}
	return s
}

// A flaw is something wrong in a step.
type flaw struct {
	name string
	do   func(s *api.Step)
	want api.Errno
}

// headFlaws are those for which Good asks ahead of the signers, in the order in which it asks.
func headFlaws() []flaw {
	var flaws []flaw
	for _, name := range []string{
		"", "/", "a/", "/a", "a//b", "A", "a.b", "a b", "\x00", "a\n", "\xc3\xa4", strings.Repeat("n", api.MaxName+1), strings.Repeat("n", api.MaxText+1),
	} {
		flaws = append(flaws, flaw{"ref " + name, func(s *api.Step) { s.Ref = name }, api.ErrForm})
	}
	for _, id := range []string{"x", made("x")[1:], made("x") + "=", made("x") + made("x"), strings.Repeat("x", api.MaxText+1)} {
		flaws = append(flaws,
			flaw{"old " + id, func(s *api.Step) { s.Old = id }, api.ErrForm},
			flaw{"new " + id, func(s *api.Step) { s.New = id }, api.ErrForm},
		)
	}
	return append(flaws,
		flaw{"nothing new", func(s *api.Step) { s.New = s.Old }, api.ErrForm},
		flaw{"both empty", func(s *api.Step) { s.Old, s.New = "", "" }, api.ErrForm},
		flaw{"nine signers", func(s *api.Step) { s.Who, s.Seals = make([]int, 9), make([]string, 9) }, api.ErrFull},
		flaw{"nine signers in order", func(s *api.Step) { *s = withSigners(*s, 0, 1, 2, 3, 4, 5, 6, 7, 8) }, api.ErrFull},
		flaw{"many signers", func(s *api.Step) { s.Who, s.Seals = make([]int, 5000), make([]string, 5000) }, api.ErrFull},
		flaw{"a signer without seal", func(s *api.Step) { s.Who = append(s.Who, 7) }, api.ErrFull},
		flaw{"no seals", func(s *api.Step) { s.Who, s.Seals = []int{1}, nil }, api.ErrFull},
		flaw{"a seal without signer", func(s *api.Step) { s.Seals = append(s.Seals, made("seal")) }, api.ErrFull},
		flaw{"no signers", func(s *api.Step) { s.Who, s.Seals = nil, []string{made("seal")} }, api.ErrFull},
	)
}

// wrongSteps are not valid, each for another reason, with what Good answers.
func wrongSteps() []example {
	var list []example
	for _, f := range headFlaws() {
		list = append(list, example{changed(withSigners(plain(), 1, 4), f.do), f.want})
	}
	for _, signers := range [][]int{
		{-1}, {8}, {9}, {-1 << 63}, {1<<63 - 1}, {256}, {0, 0}, {1, 0}, {7, 7}, {0, 2, 1}, {0, 1, 2, 3, 4, 5, 6, 8}, {0, 1, 2, 3, 4, 5, 6, 6}, {-1, 0, 1}, {5, -1},
	} {
		list = append(list, example{withSigners(plain(), signers...), api.ErrRange})
	}
	for _, seal := range []string{"", "x", made("x")[1:], made("x") + "=", strings.Repeat("x", 64), strings.Repeat("x", api.MaxText+1)} {
		for _, i := range []int{0, 1, 2} {
			list = append(list, example{changed(withSigners(plain(), 1, 4, 7), func(s *api.Step) { s.Seals[i] = seal }), api.ErrForm})
		}
	}
	return append(list, example{api.Step{}, api.ErrForm})
}

type example struct {
	step api.Step
	want api.Errno
}

func wantGood(t *testing.T, s api.Step, want api.Errno) {
	t.Helper()
	if got := Good(s); got != want {
		t.Errorf("Good of %s = %d, want %d", describe(s), got, want)
	}
}
