package step

import (
	"cartulary/api"
	"cartulary/wire"
)

// Body is what is sealed of a step that stands at a place.
func Body(at int, s api.Step) (string, api.Errno) {
	if at < 0 || at >= api.MaxLog {
		return "", api.ErrRange
	}
	var w wire.Writer
	w.Number(at)
	writeChange(&w, s)
	return w.Done()
}

// Encode is a step's bytes.
func Encode(s api.Step) (string, api.Errno) {
	if bad := Good(s); bad != api.OK {
		return "", bad
	}
	var w wire.Writer
	writeChange(&w, s)
	w.Number(len(s.Seals))
	for i, seal := range s.Seals {
		w.Number(s.Who[i])
		w.Bytes(seal)
	}
	return w.Done()
}

// Decode is the step of bytes.
func Decode(b string) (api.Step, api.Errno) {
	r := wire.Read(b)
	var s api.Step
	s.Ref = r.Text()
	s.Old = r.Text()
	s.New = r.Text()
	s.Who, s.Seals = readSeals(r)
	// The reader may tell that a string is too long; here that is one more way not to be an encoding.
	if r.Bad() != api.OK || r.Left() > 0 {
		return api.Step{}, api.ErrForm
	}
	if bad := Good(s); bad != api.OK {
		return api.Step{}, bad
	}
	return s, api.OK
}

func writeChange(w *wire.Writer, s api.Step) {
	w.Text(s.Ref)
	w.Text(s.Old)
	w.Text(s.New)
}

// readSeals ends at the first error, as the number of seals may be far greater than that of the bytes.
func readSeals(r *wire.Reader) ([]int, []string) {
	var signers []int
	var seals []string
	for range r.Number() {
		who := r.Number()
		seal := r.Bytes(sealSize)
		if r.Bad() != api.OK {
			return nil, nil
		}
		signers = append(signers, who)
		seals = append(seals, seal)
	}
	return signers, seals
}
