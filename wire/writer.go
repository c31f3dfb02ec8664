package wire

import "cartulary/api"

// Writer collects bytes, until the first error. Its zero value is empty.
type Writer struct {
	last *piece
	size int
	bad  api.Errno
}

// A piece is never changed, so that a copy of a writer goes on by itself; one buffer would be shared by both.
type piece struct {
	before *piece
	bytes  string
}

// Number puts a number.
func (w *Writer) Number(n int) {
	w.add(Put("", n))
}

// Text puts a text.
func (w *Writer) Text(s string) {
	w.add(PutText("", s))
}

// Bytes puts bytes.
func (w *Writer) Bytes(s string) {
	w.add(s, api.OK)
}

// Done is all that was put, or what went wrong first.
func (w *Writer) Done() (string, api.Errno) {
	if w == nil {
		return "", api.ErrForm
	}
	if w.bad != api.OK {
		return "", w.bad
	}
	out := make([]byte, w.size)
	end := w.size
	for p := w.last; p != nil; p = p.before {
		start := end - len(p.bytes)
		copy(out[start:end], p.bytes)
		end = start
	}
	return string(out), api.OK
}

func (w *Writer) add(s string, bad api.Errno) {
	if w == nil || w.bad != api.OK {
		return
	}
	if bad != api.OK {
		*w = Writer{bad: bad}
		return
	}
	w.last = &piece{before: w.last, bytes: s}
	w.size += len(s)
}
