package pack

import (
	"crypto/sha256"
	"encoding/binary"
	"math/rand"
	"slices"
	"strconv"
	"strings"
	"testing"

	"cartulary/api"
	"cartulary/delta"
	"cartulary/object"
)

// number is another way to the encoding of a number.
func number(n int) string {
	return string(binary.AppendUvarint(nil, uint64(n)))
}

func text(s string) string {
	return number(len(s)) + s
}

// digest is another way to the sum of bytes.
func digest(s string) string {
	d := sha256.Sum256([]byte(s))
	return string(d[:])
}

func blob(data string) string {
	return "\x01" + text(data)
}

func commit(tree, who string, time int, note string) string {
	return "\x03" + digest(tree) + "\x00" + text(who) + number(time) + text(note)
}

func tag(target, who, note string) string {
	return "\x04" + digest(target) + text(who) + text(note)
}

// tree has an entry for each name.
func tree(names ...string) string {
	s := "\x02" + number(len(names))
	for _, name := range names {
		s += text(name) + "\x00" + digest(name)
	}
	return s
}

// noise has no byte 0, so that it may be any text of an object.
func noise(source *rand.Rand, size int) string {
	b := make([]byte, size)
	for i := range b {
		b[i] = byte(1 + source.Intn(255))
	}
	return string(b)
}

// sized is an object of just so many bytes of noise; from 66 on it is a tag.
func sized(source *rand.Rand, size int) string {
	if size < 66 {
		return blob(noise(source, size-2))
	}
	s := tag(noise(source, 8), "", "")
	for _, who := range []int{0, 1, 100, 129, 4096} {
		for lengthBytes := 1; lengthBytes <= 2; lengthBytes++ {
			note := size - 33 - len(text(strings.Repeat("w", who))) - lengthBytes
			if note >= 0 && note <= api.MaxText && len(number(note)) == lengthBytes {
				s = s[:33] + text(noise(source, who)) + text(noise(source, note))
			}
		}
	}
	return s
}

// The three representations, and packs of them, written out.

func asWhole(s string) string {
	return "\x00" + number(len(s)) + s
}

func uponEarlier(index int, d string) string {
	return "\x01" + number(index) + text(d)
}

func uponOutside(id, d string) string {
	return "\x02" + id + text(d)
}

func sealed(s string) string {
	return s + digest(s)
}

func packOf(representations ...string) string {
	return sealed("P" + number(len(representations)) + strings.Join(representations, ""))
}

// spelled is a delta that copies nothing of its base.
func spelled(base, target string) string {
	return number(len(base)) + number(len(target)) + number(2*len(target)) + target
}

// longer is a delta from one blob to the blob of longer data.
func longer(base, more string) string {
	data := strings.TrimPrefix(base, "\x01"+number(len(base)-2))
	target := blob(data + more)
	return number(len(base)) + number(len(target)) + number(4) + target[:2] +
		number(2*len(data)+1) + number(2) + number(2*len(more)) + more
}

func wantRead(t *testing.T, b string, out, want []string) {
	t.Helper()
	if got, bad := Read(b, out); !slices.Equal(got, want) || bad != api.OK {
		t.Errorf("Read(%.200q) with %d outside = %.200q, %d, want %.200q", b, len(out), got, bad, want)
	}
}

func wantNoRead(t *testing.T, b string, out []string, want api.Errno) {
	t.Helper()
	if got, bad := Read(b, out); len(got) > 0 || bad != want {
		t.Errorf("Read(%.200q) with %d outside = %.200q, %d, want %d", b, len(out), got, bad, want)
	}
}

// plain is another way to a number: it tells what is behind it, and whether it could be read.
func plain(b string) (int, string, bool) {
	n, size := binary.Uvarint([]byte(b))
	if size <= 0 || n >= 1<<62 || number(int(n)) != b[:size] {
		return 0, "", false
	}
	return int(n), b[size:], true
}

// plainText is a number and as many bytes as it says.
func plainText(b string, most int) (string, string, bool) {
	n, b, ok := plain(b)
	if !ok || n > most || n > len(b) {
		return "", "", false
	}
	return b[:n], b[n:], true
}

// slowly is Read as the chapter says it, sentence by sentence. It also tells in which ways the objects are stored, and
// how deep the deepest one is.
func slowly(b string, out []string) (objects []string, ways [3]int, deepest int, bad api.Errno) {
	if len(b) < 33 || b[0] != 'P' {
		return nil, ways, 0, api.ErrForm
	}
	body := b[:len(b)-32]
	if digest(body) != b[len(b)-32:] {
		return nil, ways, 0, api.ErrSum
	}
	many, rest, ok := plain(body[1:])
	if !ok {
		return nil, ways, 0, api.ErrForm
	}
	if many > api.MaxPack {
		return nil, ways, 0, api.ErrFull
	}
	var depths []int
	for range many {
		s, way, depth, left, bad := slowObject(rest, objects, depths, out)
		if bad != api.OK {
			return nil, ways, 0, bad
		}
		if _, bad := object.Decode(s); bad != api.OK {
			return nil, ways, 0, bad
		}
		if slices.Contains(objects, s) {
			return nil, ways, 0, api.ErrTwice
		}
		objects, depths, rest = append(objects, s), append(depths, depth), left
		ways[way]++
		deepest = max(deepest, depth)
	}
	if rest != "" {
		return nil, ways, 0, api.ErrForm
	}
	return objects, ways, deepest, api.OK
}

func slowObject(b string, objects []string, depths []int, out []string) (s string, way, depth int, rest string, bad api.Errno) {
	way, b, ok := plain(b)
	if !ok || way > 2 {
		return "", 0, 0, "", api.ErrForm
	}
	if way == 0 {
		s, rest, ok := plainText(b, len(b))
		if !ok {
			return "", 0, 0, "", api.ErrForm
		}
		return s, 0, 0, rest, api.OK
	}
	base := ""
	if way == 1 {
		index, left, ok := plain(b)
		if !ok {
			return "", 0, 0, "", api.ErrForm
		}
		if index >= len(objects) {
			return "", 0, 0, "", api.ErrRange
		}
		base, depth, b = objects[index], depths[index], left
	} else {
		if len(b) < 32 {
			return "", 0, 0, "", api.ErrForm
		}
		i := slices.IndexFunc(out, func(s string) bool { return digest(s) == b[:32] })
		if i < 0 {
			return "", 0, 0, "", api.ErrBase
		}
		base, b = out[i], b[32:]
	}
	d, rest, ok := plainText(b, api.MaxText)
	if !ok {
		return "", 0, 0, "", api.ErrForm
	}
	if depth == api.MaxDepth {
		return "", 0, 0, "", api.ErrDeep
	}
	s, bad = delta.Apply(base, d)
	return s, way, depth + 1, rest, bad
}

func checkRead(t *testing.T, b string, out []string) api.Errno {
	t.Helper()
	want, _, _, bad := slowly(b, out)
	if bad == api.OK {
		wantRead(t, b, out, want)
	} else {
		wantNoRead(t, b, out, bad)
	}
	return bad
}

// samples are objects of all kinds and of many sizes, of which some are alike.
func samples() []string {
	source := rand.New(rand.NewSource(50))
	long := "In the year of the book, the abbot gave the mill to the brothers, and the brothers gave the abbot the mill."
	list := []string{
		blob(""), blob("a"), blob(long), blob(long + "!"), blob("!" + long), blob(long[40:] + long[:40]),
		blob(strings.Repeat("a", 4096)), blob(strings.Repeat("a", 4095)), blob(strings.Repeat("\x00", 300)),
		tree(), tree("a"), tree("a", "b"), tree("a", "b", "c", "d", "e"), tree("a", "b", "c", "d", "e", "f"),
		commit("t", "me", 0, ""), commit("t", "me", 1<<40-1, long), commit("t", "you", 1<<40-1, long), commit("u", "me", 7, long),
		tag("t", "", ""), tag("t", "me", long), tag("t", "me", long+long),
	}
	for _, size := range []int{16, 17, 66, 100, 126, 127, 128, 129, 130, 500, 4096, 4097, 4102, 8000, api.MaxObject - 1, api.MaxObject} {
		list = append(list, sized(source, size))
	}
	return list
}

func TestSamplesAreObjects(t *testing.T) {
	for i, s := range samples() {
		if _, bad := object.Decode(s); bad != api.OK {
			t.Errorf("sample %d: %d", i, bad)
		}
	}
	source := rand.New(rand.NewSource(51))
	for _, size := range []int{3, 16, 66, 67, 130, 170, 180, 200, 1000, 4096, 5000, 8192} {
		s := sized(source, size)
		if _, bad := object.Decode(s); bad != api.OK || len(s) != size {
			t.Errorf("an object of %d bytes instead of %d: %d", len(s), size, bad)
		}
	}
}

// versions are blobs, each of which is most like the one before it.
func versions(many int) []string {
	source := rand.New(rand.NewSource(52))
	data := noise(source, 600)
	list := []string{blob(data)}
	for i := 1; i < many; i++ {
		at := source.Intn(len(data) - 40)
		data = data[:at] + "version " + strconv.Itoa(i) + noise(source, 30) + data[at+40:]
		list = append(list, blob(data))
	}
	return list
}
