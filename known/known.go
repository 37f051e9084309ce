// Package known: which names of elements are known, for the layers that ask it (DOC.md, chapters 5 and 6).
package known

import (
	"stole/api"
)

// Kind tells which of the Elems an element of this name is.
func Kind(name string) int {
	switch name {
	case "br", "img", "input", "hr", "meta", "link":
		return api.ElemVoid
	case "title", "textarea":
		return api.ElemRcdata
	case "script":
		return api.ElemScript
	case "style":
		return api.ElemStyle
	}
	return api.ElemPlain
}
