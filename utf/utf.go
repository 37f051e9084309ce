// Package utf: bytes that are a text (DOC.md, chapter 1).
package utf

import (
	"strings"
	"unicode/utf8"
)

// May tells whether s is UTF-8 without a byte 0.
func May(s string) bool {
	for i := 0; i < len(s); {
		n := signLength(s[i:])
		if n == 0 {
			return false
		}
		i += n
	}
	return true
}

// Norm gives s with U+FFFD for each byte that is of no sign, or is 0.
func Norm(s string) string {
	var out strings.Builder
	out.Grow(len(s))
	for i := 0; i < len(s); {
		n := signLength(s[i:])
		if n == 0 {
			out.WriteString("\uFFFD")
			i++
			continue
		}
		out.WriteString(s[i : i+n])
		i += n
	}
	return out.String()
}

// Lower gives s with a to z for A to Z.
func Lower(s string) string {
	low := make([]byte, len(s))
	for i := range len(s) {
		low[i] = lowerByte(s[i])
	}
	return string(low)
}

// signLength gives how many bytes the sign has that s begins with; 0, if it begins with none, or with a byte 0.
func signLength(s string) int {
	r, n := utf8.DecodeRuneInString(s)
	// A U+FFFD that is written in s is 3 bytes long; one that stands for a wrong byte is 1.
	if r == 0 || r == utf8.RuneError && n == 1 {
		return 0
	}
	return n
}

// lowerByte leaves all but A to Z, so that bytes above 127, which may be of a longer sign, stay.
func lowerByte(c byte) byte {
	if c >= 'A' && c <= 'Z' {
		return c + ('a' - 'A')
	}
	return c
}
