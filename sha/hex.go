package sha

import (
	"strings"

	"strongbox/api"
)

const hexDigits = "0123456789abcdef"

// Hex is the hex of bytes.
func Hex(s string) string {
	var b strings.Builder
	b.Grow(2 * len(s))
	for i := range len(s) {
		b.WriteByte(hexDigits[s[i]>>4])
		b.WriteByte(hexDigits[s[i]&15])
	}
	return b.String()
}

// Unhex are the bytes of a hex.
func Unhex(s string) (string, api.Errno) {
	if len(s)%2 != 0 {
		return "", api.ErrForm
	}
	var b strings.Builder
	b.Grow(len(s) / 2)
	for i := 0; i < len(s); i += 2 {
		high, low := strings.IndexByte(hexDigits, s[i]), strings.IndexByte(hexDigits, s[i+1])
		if high < 0 || low < 0 {
			return "", api.ErrForm
		}
		b.WriteByte(byte(high<<4 | low))
	}
	return b.String(), api.OK
}
