package head

import (
	"cartulary/api"
	"cartulary/sum"
)

// markPrefix keeps what a witness seals apart from what a signer seals: no valid step has a body that begins so.
const markPrefix = "head"

// Mark is a witness's mark upon a head.
func Mark(who int, key string, h api.Head) (api.Mark, api.Errno) {
	text, bad := Text(h)
	if bad != api.OK {
		return api.Mark{}, bad
	}
	if !isWitness(who) {
		return api.Mark{}, api.ErrRange
	}
	return api.Mark{Who: who, Seal: sum.Seal(key, markPrefix+text)}, api.OK
}

// Check is what is wrong with a head and its marks, by the keys.
func Check(k api.Keys, s api.Sealed) api.Errno {
	if bad := Good(s.Head); bad != api.OK {
		return bad
	}
	for i, m := range s.Marks {
		if !isWitness(m.Who) || m.Who >= len(k.Witnesses) || i > 0 && m.Who <= s.Marks[i-1].Who {
			return api.ErrRange
		}
		// Mark has no error here: the head and the number are checked above.
		if right, _ := Mark(m.Who, k.Witnesses[m.Who], s.Head); m != right {
			return api.ErrSeal
		}
	}
	if len(s.Marks) < api.Quorum {
		return api.ErrSeal
	}
	return api.OK
}

func isWitness(n int) bool {
	return n >= 0 && n < api.Witnesses
}
