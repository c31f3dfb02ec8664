package pack

import (
	"cartulary/api"
	"cartulary/delta"
)

// blockSize is such that objects which share some 30 bytes in a row share a block, and that few share one by chance.
const blockSize = 16

// base is an object of the pack that a delta may stand upon.
type base struct {
	object string
	index  int // in the pack
	depth  int // the length of its chain of deltas
}

// bases finds the base that is most like an object by the blocks that they share, since making a delta upon every base
// would take far too long.
type bases struct {
	list   []base
	blocks map[string]int // for each block, the newest base that has it
}

func newBases() *bases {
	return &bases{blocks: map[string]int{}}
}

// add leaves out what no further delta may stand upon.
func (b *bases) add(next base) {
	if next.depth >= api.MaxDepth {
		return
	}
	for i := 0; i+blockSize <= len(next.object); i += blockSize {
		b.blocks[next.object[i:i+blockSize]] = len(b.list)
	}
	b.list = append(b.list, next)
}

// encodeObject is a representation of an object, and the length of its chain of deltas. It is whole unless a delta is
// shorter, so that no object takes more bytes than it may.
func (b *bases) encodeObject(s string) (string, int) {
	asWhole, _ := representation{way: whole, bytes: s}.encode()
	like, found := b.likest(s)
	if !found {
		return asWhole, 0
	}
	asDelta, bad := like.encodeDelta(s)
	if bad != api.OK || len(asDelta) >= len(asWhole) {
		return asWhole, 0
	}
	return asDelta, like.depth + 1
}

// likest is the base that shares the most blocks with an object, if any shares one.
func (b *bases) likest(s string) (base, bool) {
	shared := make([]int, len(b.list))
	best, most := 0, 0
	for i := 0; i+blockSize <= len(s); i++ {
		n, found := b.blocks[s[i:i+blockSize]]
		if !found {
			continue
		}
		shared[n]++
		if shared[n] > most {
			best, most = n, shared[n]
		}
	}
	if most == 0 {
		return base{}, false
	}
	return b.list[best], true
}

// encodeDelta is the representation of an object by a delta upon this base.
func (b base) encodeDelta(s string) (string, api.Errno) {
	d, bad := delta.Make(b.object, s)
	if bad != api.OK {
		return "", bad
	}
	return representation{way: earlier, index: b.index, bytes: d}.encode()
}
