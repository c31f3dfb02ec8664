package pack

import (
	"cartulary/api"
	"cartulary/wire"
)

// The ways to store an object: whole, or as a delta upon an earlier object of the pack or upon one outside. Their
// numbers are those of the format.
const (
	whole   = 0
	earlier = 1
	outside = 2
)

// representation is how a pack stores an object.
type representation struct {
	way   int
	index int    // of the base, if that is an earlier object
	id    string // of the base, if that is outside
	bytes string // of the object if it is whole, and of the delta otherwise
}

// encode is for the two ways in which Write stores objects. It fails for a delta of more than MaxText bytes, which is no
// string of package wire.
func (p representation) encode() (string, api.Errno) {
	var w wire.Writer
	w.Number(p.way)
	switch {
	case p.way == whole:
		w.Number(len(p.bytes))
		w.Bytes(p.bytes)
	case p.way == earlier:
		w.Number(p.index)
		w.Text(p.bytes)
	}
	return w.Done()
}

// readStart reads a representation up to the delta, which is read only when there is a base for it.
func readStart(r *wire.Reader) (representation, api.Errno) {
	p := representation{way: r.Number()}
	switch {
	case p.way == whole:
		p.bytes = r.Bytes(r.Number())
	case p.way == earlier:
		p.index = r.Number()
	case p.way == outside:
		p.id = r.Bytes(idSize)
	default:
		return representation{}, api.ErrForm
	}
	return p, r.Bad()
}
