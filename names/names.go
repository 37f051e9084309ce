// Package names: what a name is, for the layers that ask for names (DOC.md, chapter 14).
package names

import (
	"stole/api"
)

// Is tells whether s is a name.
func Is(s string) bool {
	if s == "" || len(s) > api.MaxName || isDigit(s[0]) {
		return false
	}
	for i := range len(s) {
		if !MayHold(s[i]) {
			return false
		}
	}
	return true
}

// MayHold tells whether c may stand in a name; a digit may not begin one.
func MayHold(c byte) bool {
	return c == '_' || isDigit(c) || c >= 'a' && c <= 'z' || c >= 'A' && c <= 'Z'
}

func isDigit(c byte) bool { return c >= '0' && c <= '9' }
