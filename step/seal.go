package step

import (
	"slices"

	"cartulary/api"
	"cartulary/sum"
)

// Sign is a step with one more who seals it for a place.
func Sign(s api.Step, at, who int, key string) (api.Step, api.Errno) {
	body, bad := goodBody(at, s)
	if bad != api.OK {
		return api.Step{}, bad
	}
	if !isSigner(who) {
		return api.Step{}, api.ErrRange
	}
	place, found := slices.BinarySearch(s.Who, who)
	if found {
		return api.Step{}, api.ErrTwice
	}
	// New lists, so that the given ones and the room behind them stay as they are.
	s.Who = slices.Concat(s.Who[:place], []int{who}, s.Who[place:])
	s.Seals = slices.Concat(s.Seals[:place], []string{sum.Seal(key, body)}, s.Seals[place:])
	return s, api.OK
}

// Check is what is wrong with a step at a place, by the keys.
func Check(k api.Keys, at int, s api.Step) api.Errno {
	body, bad := goodBody(at, s)
	if bad != api.OK {
		return bad
	}
	for i, who := range s.Who {
		if who >= len(k.Signers) || s.Seals[i] != sum.Seal(k.Signers[who], body) {
			return api.ErrSeal
		}
	}
	if len(s.Seals) < k.Need {
		return api.ErrSeal
	}
	return api.OK
}

// goodBody is the body of a step that is also valid.
func goodBody(at int, s api.Step) (string, api.Errno) {
	if bad := Good(s); bad != api.OK {
		return "", bad
	}
	return Body(at, s)
}
