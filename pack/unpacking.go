package pack

import (
	"cartulary/api"
	"cartulary/delta"
	"cartulary/object"
	"cartulary/wire"
)

// unpacking is what has been read of a pack so far, and what is outside.
type unpacking struct {
	read    distinct
	depths  []int // for each object that was read, the length of its chain of deltas
	out     []string
	indexes map[string]int // in out, by id: of the first one that has it
}

func newUnpacking(out []string) *unpacking {
	ids := make([]string, len(out))
	for i, s := range out {
		ids[i] = object.Id(s)
	}
	return &unpacking{read: newDistinct(), out: out, indexes: firstIndexes(ids)}
}

// firstIndexes is where each id is first, so that what comes behind never takes the place of an object with its id.
func firstIndexes(ids []string) map[string]int {
	indexes := map[string]int{}
	for i, id := range ids {
		if _, found := indexes[id]; !found {
			indexes[id] = i
		}
	}
	return indexes
}

func (u *unpacking) next(r *wire.Reader) api.Errno {
	s, depth, bad := u.readObject(r)
	if bad != api.OK {
		return bad
	}
	u.depths = append(u.depths, depth)
	return u.read.add(s)
}

// readObject is the next object and the length of its chain of deltas. Whether it is an object at all is left to the
// caller.
func (u *unpacking) readObject(r *wire.Reader) (string, int, api.Errno) {
	p, bad := readStart(r)
	switch {
	case bad != api.OK:
		return "", 0, bad
	case p.way == whole:
		return p.bytes, 0, api.OK
	}
	from, depth, bad := u.baseOf(p)
	if bad != api.OK {
		return "", 0, bad
	}
	d := r.Text()
	switch {
	case r.Bad() != api.OK:
		// The reader may tell that the delta is too long; here that is one more way not to be readable.
		return "", 0, api.ErrForm
	case depth >= api.MaxDepth:
		return "", 0, api.ErrDeep
	}
	s, bad := delta.Apply(from, d)
	return s, depth + 1, bad
}

// baseOf is what a delta stands upon, and the length of the chain of deltas of that.
func (u *unpacking) baseOf(p representation) (string, int, api.Errno) {
	if p.way == earlier {
		if p.index >= len(u.read.objects) {
			return "", 0, api.ErrRange
		}
		return u.read.objects[p.index], u.depths[p.index], api.OK
	}
	i, found := u.indexes[p.id]
	if !found {
		return "", 0, api.ErrBase
	}
	return u.out[i], 0, api.OK
}
