package wire

import "cartulary/api"

// Reader consumes bytes from their beginning, until the first error.
type Reader struct {
	rest string
	bad  api.Errno
}

// Read is a reader of bytes.
func Read(b string) *Reader {
	return &Reader{rest: b}
}

// Number is the next number.
func (r *Reader) Number() int {
	if r.Bad() != api.OK {
		return 0
	}
	n, size, bad := Get(r.rest)
	r.consume(size, bad)
	return n
}

// Text is the next text.
func (r *Reader) Text() string {
	if r.Bad() != api.OK {
		return ""
	}
	s, size, bad := GetText(r.rest)
	r.consume(size, bad)
	return s
}

// Bytes is the next n bytes.
func (r *Reader) Bytes(n int) string {
	if r.Bad() != api.OK {
		return ""
	}
	if n < 0 || n > len(r.rest) {
		r.bad = api.ErrForm
		return ""
	}
	s := r.rest[:n]
	r.consume(n, api.OK)
	return s
}

// Left is how many bytes are left.
func (r *Reader) Left() int {
	if r == nil {
		return 0
	}
	return len(r.rest)
}

// Bad is what went wrong first.
func (r *Reader) Bad() api.Errno {
	if r == nil {
		return api.ErrForm
	}
	return r.bad
}

// consume expects a reader without an error, and a size of 0 with one.
func (r *Reader) consume(size int, bad api.Errno) {
	r.rest = r.rest[size:]
	r.bad = bad
}
