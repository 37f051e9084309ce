// Package script: texts as they may stand in a script's quotes, for the layers that write them (DOC.md, chapters 10 and 11).
package script

import (
	"strings"
	"unicode/utf8"

	"stole/byteset"
	"stole/utf"
)

// plainBytes are those below 128 that stay.
const plainBytes = byteset.Alnum + " !#$%()*+,-./:;=?@[]^_{|}~"

// Scripts have taken these two for ends of lines, within quotes too.
const (
	lineSeparator      = '\u2028'
	paragraphSeparator = '\u2029'
)

// Escape gives Norm of s with numbers for the signs that could end a quote, a line, or a script.
func Escape(s string) string {
	n := utf.Norm(s)
	stay := byteset.Of(plainBytes)
	var out strings.Builder
	out.Grow(len(n))
	for _, sign := range n {
		switch {
		case sign < utf8.RuneSelf && !stay.Has(byte(sign)):
			writeNumber(&out, byte(sign))
		case sign == lineSeparator:
			out.WriteString(`\u2028`)
		case sign == paragraphSeparator:
			out.WriteString(`\u2029`)
		default:
			out.WriteRune(sign)
		}
	}
	return out.String()
}

func writeNumber(out *strings.Builder, c byte) {
	const sixteen = "0123456789abcdef"
	out.WriteString(`\u00`)
	out.WriteByte(sixteen[c>>4])
	out.WriteByte(sixteen[c&15])
}
