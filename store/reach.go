package store

import (
	"slices"

	"cartulary/api"
	"cartulary/object"
)

// getter tells the bytes of the object with an id.
type getter func(id string) (string, api.Errno)

func onDisk(d api.Disk) getter {
	return func(id string) (string, api.Errno) { return Get(d, id) }
}

// load is the object that is told for an id: api.ErrNone if there is none, api.ErrForm if it is no object. No function at
// all tells of no object.
func load(get getter, id string) (api.Object, api.Errno) {
	if get == nil {
		return api.Object{}, api.ErrNone
	}
	s, bad := get(id)
	if bad != api.OK {
		return api.Object{}, api.ErrNone
	}
	o, bad := object.Decode(s)
	if bad != api.OK {
		return api.Object{}, api.ErrForm
	}
	return o, api.OK
}

// visits is ids in the order in which they come up, each once.
type visits struct {
	ids  []string
	seen map[string]struct{}
}

func newVisits(ids []string) *visits {
	v := &visits{seen: map[string]struct{}{}}
	v.add(ids)
	return v
}

func (v *visits) add(ids []string) {
	for _, id := range ids {
		if _, found := v.seen[id]; !found {
			v.seen[id] = struct{}{}
			v.ids = append(v.ids, id)
		}
	}
}

// Closure is all ids that some lead to, themselves too, rising.
func Closure(d api.Disk, ids []string) ([]string, api.Errno) {
	return Reach(onDisk(d), ids)
}

// Reach is likewise of objects that something tells.
func Reach(get func(id string) (string, api.Errno), ids []string) ([]string, api.Errno) {
	v := newVisits(ids)
	many, lacking, wrong := 0, false, false
	// All of them are visited even if one is lacking or wrong, since there being too many goes ahead of that.
	for i := 0; i < len(v.ids); i++ {
		o, bad := load(get, v.ids[i])
		switch bad {
		case api.OK:
			many++
			v.add(object.Links(o))
		case api.ErrNone:
			lacking = true
		default:
			wrong = true
		}
		if many > api.MaxClosure {
			return nil, api.ErrFull
		}
	}
	switch {
	case lacking:
		return nil, api.ErrNone
	case wrong:
		return nil, api.ErrForm
	}
	slices.Sort(v.ids)
	return v.ids, api.OK
}

// Descends is whether a commit is another one, or has it among those ahead of it.
func Descends(get func(id string) (string, api.Errno), id, from string) bool {
	v := newVisits([]string{id})
	for i := 0; i < min(len(v.ids), api.MaxClosure); i++ {
		if v.ids[i] == from {
			return true
		}
		// What is not a commit, or not there, has no parents here either.
		o, _ := load(get, v.ids[i])
		v.add(o.Parents)
	}
	return false
}
