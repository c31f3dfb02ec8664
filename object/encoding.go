package object

import (
	"cartulary/api"
	"cartulary/wire"
)

// Encode is an object's bytes.
func Encode(o api.Object) (string, api.Errno) {
	if bad := Good(o); bad != api.OK {
		return "", bad
	}
	var w wire.Writer
	w.Number(o.Kind)
	writeFields(&w, o)
	s, bad := w.Done()
	if len(s) > api.MaxObject {
		return "", api.ErrLong
	}
	return s, bad
}

// Decode is the object of bytes.
func Decode(s string) (api.Object, api.Errno) {
	if len(s) > api.MaxObject {
		return api.Object{}, api.ErrLong
	}
	r := wire.Read(s)
	kind := r.Number()
	if r.Bad() != api.OK {
		return api.Object{}, api.ErrForm
	}
	if !isKind(kind) {
		return api.Object{}, api.ErrKind
	}
	o, ok := readFields(r, kind)
	// The reader may tell that a string is too long; here that is one more way not to be an encoding.
	if !ok || r.Bad() != api.OK || r.Left() > 0 {
		return api.Object{}, api.ErrForm
	}
	if bad := Good(o); bad != api.OK {
		return api.Object{}, bad
	}
	return o, api.OK
}

// writeFields expects a valid object.
func writeFields(w *wire.Writer, o api.Object) {
	switch o.Kind {
	case api.Blob:
		w.Text(o.Data)
	case api.Tree:
		writeEntries(w, o.Entries)
	case api.Commit:
		w.Bytes(o.Tree)
		writeParents(w, o.Parents)
		w.Text(o.Who)
		w.Number(o.Time)
		w.Text(o.Note)
	case api.Tag:
		w.Bytes(o.Target)
		w.Text(o.Who)
		w.Text(o.Note)
	}
}

// readFields leaves it to the caller to ask the reader for an error; it tells only what the reader cannot know.
func readFields(r *wire.Reader, kind int) (api.Object, bool) {
	o, ok := api.Object{Kind: kind}, true
	switch kind {
	case api.Blob:
		o.Data = r.Text()
	case api.Tree:
		o.Entries, ok = readEntries(r)
	case api.Commit:
		o.Tree = r.Bytes(idSize)
		o.Parents = readParents(r)
		o.Who = r.Text()
		o.Time = r.Number()
		o.Note = r.Text()
	case api.Tag:
		o.Target = r.Bytes(idSize)
		o.Who = r.Text()
		o.Note = r.Text()
	}
	return o, ok
}

func writeEntries(w *wire.Writer, entries []api.Entry) {
	w.Number(len(entries))
	for _, e := range entries {
		w.Text(e.Name)
		w.Number(dirNumber(e.Dir))
		w.Bytes(e.Id)
	}
}

func dirNumber(dir bool) int {
	if dir {
		return 1
	}
	return 0
}

// readEntries ends at the first error, as the number of entries may be far greater than that of the bytes.
func readEntries(r *wire.Reader) ([]api.Entry, bool) {
	var entries []api.Entry
	for range r.Number() {
		name := r.Text()
		dir := r.Number()
		id := r.Bytes(idSize)
		if r.Bad() != api.OK || dir > 1 {
			return nil, false
		}
		entries = append(entries, api.Entry{Name: name, Dir: dir == 1, Id: id})
	}
	return entries, true
}

func writeParents(w *wire.Writer, parents []string) {
	w.Number(len(parents))
	for _, p := range parents {
		w.Bytes(p)
	}
}

// readParents ends at the first error, as readEntries does.
func readParents(r *wire.Reader) []string {
	var parents []string
	for range r.Number() {
		p := r.Bytes(idSize)
		if r.Bad() != api.OK {
			return nil
		}
		parents = append(parents, p)
	}
	return parents
}
