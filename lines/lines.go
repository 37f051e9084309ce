// Package lines: ends of lines, for the layers that read sources (DOC.md, chapters 5 and 13).
package lines

import "strings"

// OneEnd gives s with a byte 10 for each end of a line.
func OneEnd(s string) string {
	return strings.ReplaceAll(strings.ReplaceAll(s, "\r\n", "\n"), "\r", "\n")
}
