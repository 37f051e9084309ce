package known

import (
	"strings"
	"testing"

	"stole/api"
)

func TestKind(t *testing.T) {
	for kind, names := range map[int]string{
		api.ElemVoid:   "br img input hr meta link",
		api.ElemRcdata: "title textarea",
		api.ElemScript: "script",
		api.ElemStyle:  "style",
	} {
		for _, name := range strings.Fields(names) {
			if got := Kind(name); got != kind {
				t.Errorf("Kind(%q) = %d, want %d", name, got, kind)
			}
			for _, other := range []string{strings.ToUpper(name), name + "s", name + " ", " " + name, name[1:], name + name, strings.ToUpper(name[:1]) + name[1:]} {
				if got := Kind(other); got != api.ElemPlain {
					t.Errorf("Kind(%q) = %d, want ElemPlain", other, got)
				}
			}
		}
	}
	for _, name := range []string{"", "p", "b", "a", "div", "noscript", "\x00", "\xff"} {
		if got := Kind(name); got != api.ElemPlain {
			t.Errorf("Kind(%q) = %d, want ElemPlain", name, got)
		}
	}
}
