package head

import (
	"crypto/hmac"
	"crypto/sha256"
	"encoding/binary"
	"fmt"
	"math"
	"slices"
	"strconv"
	"strings"

	"cartulary/api"
)

func digest(s string) string {
	b := sha256.Sum256([]byte(s))
	return string(b[:])
}

// number is another way to the encoding of a number.
func number(n int) string {
	return string(binary.AppendUvarint(nil, uint64(n)))
}

func text(s string) string {
	return number(len(s)) + s
}

// sealOf is another way to the seal.
func sealOf(key, b string) string {
	h := hmac.New(sha256.New, []byte(key))
	h.Write([]byte(b))
	return string(h.Sum(nil))
}

// textOf is another way to a head's bytes; it also has some for what is not valid.
func textOf(h api.Head) string {
	return number(h.Size) + h.Root
}

// leafOf is another way to a step's bytes.
func leafOf(s api.Step) string {
	b := text(s.Ref) + text(s.Old) + text(s.New) + number(len(s.Seals))
	for i, seal := range s.Seals {
		b += number(s.Who[i]) + seal
	}
	return b
}

func leavesOf(l []api.Step) []string {
	var leaves []string
	for _, s := range l {
		leaves = append(leaves, leafOf(s))
	}
	return leaves
}

// rootOf is another way to a root: row by row, where the last one of an odd row goes up as it is.
func rootOf(l []string) string {
	if len(l) == 0 {
		return digest("")
	}
	var row []string
	for _, s := range l {
		row = append(row, digest("\x00"+s))
	}
	for len(row) > 1 {
		var next []string
		for i := 0; i+1 < len(row); i += 2 {
			next = append(next, digest("\x01"+row[i]+row[i+1]))
		}
		if len(row)%2 == 1 {
			next = append(next, row[len(row)-1])
		}
		row = next
	}
	return row[0]
}

func describe(h api.Head) string {
	return fmt.Sprintf("{%d %.100q}", h.Size, h.Root)
}

func describeMark(m api.Mark) string {
	return fmt.Sprintf("{%d %.100q}", m.Who, m.Seal)
}

func describeMarks(l []api.Mark) string {
	var b strings.Builder
	for _, m := range l[:min(len(l), 6)] {
		b.WriteString(describeMark(m))
	}
	return fmt.Sprintf("%d marks %s", len(l), b.String())
}

func headOf(l []api.Step) api.Head {
	return api.Head{Size: len(l), Root: rootOf(leavesOf(l))}
}

// logOf is a log of so many steps, each unlike the others, with as many seals as come; nobody has made the seals.
func logOf(many int) []api.Step {
	var l []api.Step
	for i := range many {
		s := api.Step{Ref: "ref-" + strconv.Itoa(i%7), New: digest("new" + strconv.Itoa(i))}
		if i >= 7 {
			s.Old = l[i-7].New
		}
		for who := range i % (api.MaxKeys + 1) {
			s.Who = append(s.Who, who)
			s.Seals = append(s.Seals, digest("seal"+strconv.Itoa(i*api.MaxKeys+who)))
		}
		l = append(l, s)
	}
	return l
}

// with is a log with another step at one place.
func with(l []api.Step, at int, s api.Step) []api.Step {
	l = slices.Clone(l)
	l[at] = s
	return l
}

func sameStep(a, b api.Step) bool {
	return a.Ref == b.Ref && a.Old == b.Old && a.New == b.New && slices.Equal(a.Who, b.Who) && slices.Equal(a.Seals, b.Seals)
}

// cloneLog shares no memory with a log.
func cloneLog(l []api.Step) []api.Step {
	l = slices.Clone(l)
	for i := range l {
		l[i].Who, l[i].Seals = slices.Clone(l[i].Who), slices.Clone(l[i].Seals)
	}
	return l
}

// wrongStep is a step that is not valid, with what step.Encode answers.
type wrongStep struct {
	step api.Step
	want api.Errno
}

func wrongSteps() []wrongStep {
	id, seal := digest("id"), digest("seal")
	return []wrongStep{
		{api.Step{}, api.ErrForm},
		{api.Step{Ref: "/", New: id}, api.ErrForm},
		{api.Step{Ref: "main", Old: id, New: id}, api.ErrForm},
		{api.Step{Ref: "main", New: id, Who: make([]int, 9), Seals: make([]string, 9)}, api.ErrFull},
		{api.Step{Ref: "main", New: id, Who: []int{0}}, api.ErrFull},
		{api.Step{Ref: "main", New: id, Who: []int{8}, Seals: []string{seal}}, api.ErrRange},
		{api.Step{Ref: "main", New: id, Who: []int{2, 1}, Seals: []string{seal, seal}}, api.ErrRange},
		{api.Step{Ref: "main", New: id, Who: []int{2}, Seals: []string{seal[1:]}}, api.ErrForm},
	}
}

// roots have the size that a root has, and need be of no log.
func roots() []string {
	return []string{digest(""), digest("root"), strings.Repeat("\x00", 32), strings.Repeat("\xff", 32), strings.Repeat("r", 32), "\x80\x01" + strings.Repeat("\x00", 30)}
}

// noRoots have another size.
func noRoots() []string {
	root := digest("root")
	return []string{"", "r", root[1:], root[:31], root + "\x00", "\x00" + root, root + root, strings.Repeat("r", api.MaxText+1)}
}

// outside are numbers that no size of a log is.
func outside() []int {
	return []int{-1, -2, math.MinInt, -1 << 32, api.MaxLog + 1, api.MaxLog + 2, 255, 256, 1 << 32, 1<<62 - 1, 1 << 62, math.MaxInt}
}

// A wrongHead is not valid, with what Good answers.
type wrongHead struct {
	head api.Head
	want api.Errno
}

func wrongHeads() []wrongHead {
	l := []wrongHead{{api.Head{}, api.ErrForm}}
	for _, root := range noRoots() {
		for _, size := range []int{0, 1, 127, 128, api.MaxLog} {
			l = append(l, wrongHead{api.Head{Size: size, Root: root}, api.ErrForm})
		}
	}
	for _, size := range outside() {
		for _, root := range slices.Concat(roots(), noRoots()) {
			l = append(l, wrongHead{api.Head{Size: size, Root: root}, api.ErrRange})
		}
	}
	return l
}

// rightHeads are valid; those of all logs up to the longest are among them.
func rightHeads() []api.Head {
	var l []api.Head
	log := logOf(api.MaxLog)
	for size := range api.MaxLog + 1 {
		l = append(l, headOf(log[:size]))
	}
	for _, root := range roots() {
		for _, size := range []int{0, 1, 2, 127, 128, api.MaxLog - 1, api.MaxLog} {
			l = append(l, api.Head{Size: size, Root: root})
		}
	}
	return l
}

// keyOf is the key of a witness; some are longer than a block of the sum.
func keyOf(who int) string {
	return strings.Repeat("key of "+strconv.Itoa(who), 1+5*(who%3))
}

// keysOf are the keys of so many witnesses.
func keysOf(many int) api.Keys {
	var k api.Keys
	for who := range many {
		k.Witnesses = append(k.Witnesses, keyOf(who))
	}
	return k
}

// markOf is another way to a mark; it also makes some that no witness makes.
func markOf(who int, key string, h api.Head) api.Mark {
	return api.Mark{Who: who, Seal: sealOf(key, "head"+textOf(h))}
}

// markedBy is a head with the marks of these witnesses, put together without Mark.
func markedBy(h api.Head, witnesses ...int) api.Sealed {
	s := api.Sealed{Head: h}
	for _, who := range witnesses {
		s.Marks = append(s.Marks, markOf(who, keyOf(who), h))
	}
	return s
}
