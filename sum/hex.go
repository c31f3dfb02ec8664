package sum

import (
	"strings"

	"cartulary/api"
)

const hexDigits = "0123456789abcdef"

// Hex is bytes as digits.
func Hex(b string) string {
	out := make([]byte, 0, 2*len(b))
	for i := range len(b) {
		out = append(out, hexDigits[b[i]>>4], hexDigits[b[i]&15])
	}
	return string(out)
}

// Unhex is the bytes of digits.
func Unhex(s string) (string, api.Errno) {
	if len(s)%2 != 0 {
		return "", api.ErrForm
	}
	out := make([]byte, 0, len(s)/2)
	for i := 0; i < len(s); i += 2 {
		high := strings.IndexByte(hexDigits, s[i])
		low := strings.IndexByte(hexDigits, s[i+1])
		if high < 0 || low < 0 {
			return "", api.ErrForm
		}
		out = append(out, byte(high<<4|low))
	}
	return string(out), api.OK
}
