package elem

import (
	"slices"
	"strings"
	"sync"
	"testing"

	"stole/api"
	"stole/tok"
)

// elems gives the names that P6.1 tells for Kind, by their kinds.
func elems() [][]string {
	return [][]string{
		api.ElemPlain:  {},
		api.ElemVoid:   {"br", "img", "input", "hr", "meta", "link"},
		api.ElemRcdata: {"title", "textarea"},
		api.ElemScript: {"script"},
		api.ElemStyle:  {"style"},
	}
}

// attrs gives the names that P6.1 tells for Attr, by their kinds; those that begin with `on` are told by a rule.
func attrs() [][]string {
	return [][]string{
		api.AttrPlain: {},
		api.AttrUrl:   {"href", "src", "action", "formaction", "cite"},
		api.AttrJs:    {},
		api.AttrCss:   {"style"},
	}
}

// kindIn gives the kind under which a name stands in the rows, 0 if it is in none.
func kindIn(rows [][]string, name string) int {
	return max(0, slices.IndexFunc(rows, func(row []string) bool { return slices.Contains(row, name) }))
}

func wantKind(name string) int {
	return kindIn(elems(), name)
}

func wantAttr(name string) int {
	if len(name) >= 3 && name[0] == 'o' && name[1] == 'n' {
		return api.AttrJs
	}
	return kindIn(attrs(), name)
}

// check holds both calls against the document's rows.
func check(t *testing.T, name string) {
	t.Helper()
	if got, want := Kind(name), wantKind(name); got != want {
		t.Errorf("P6.1: Kind(%q) = %d, want %d", name, got, want)
	}
	if got, want := Attr(name), wantAttr(name); got != want {
		t.Errorf("P6.1: Attr(%q) = %d, want %d", name, got, want)
	}
}

// allNames gives the names that the document tells, of elements and of attributes, and some that it tells by `on`.
func allNames() []string {
	names := slices.Concat(slices.Concat(elems()...), slices.Concat(attrs()...))
	return append(names, "on", "onx", "onclick", "onmouseover")
}

// TestTold: what the document tells, written out once more, without the rows above.
func TestTold(t *testing.T) {
	for _, row := range []struct {
		ask   func(string) int
		want  int
		names string
	}{
		{Kind, 1, "br img input hr meta link"},
		{Kind, 2, "title textarea"},
		{Kind, 3, "script"},
		{Kind, 4, "style"},
		{Kind, 0, "p a b i div span head body noscript form option select button href src cite action onclick on BR Img SCRIPT Style tITLE"},
		{Attr, 1, "href src action formaction cite"},
		{Attr, 2, "onclick onClick onx onX on1 on- onON onn onstyle onhref on=on"},
		{Attr, 3, "style"},
		{Attr, 0, "on o n no xon xonclick data-onclick ON On oN ONCLICK Onclick oNclick"},
		{Attr, 0, "id class title value name data-src data-href script br HREF Src ACTION formAction Cite STYLE Style"},
	} {
		for _, name := range strings.Fields(row.names) {
			if got := row.ask(name); got != row.want {
				t.Errorf("P6.1: of %q: %d, want %d", name, got, row.want)
			}
		}
	}
}

// TestNear: each name that is told, with each byte more at each place, a byte less, another byte, in great letters.
func TestNear(t *testing.T) {
	for _, name := range allNames() {
		check(t, name)
		check(t, name+name)
		check(t, strings.ToUpper(name))
		for i := range len(name) {
			check(t, name[:i])
			check(t, name[i:])
			check(t, name[:i]+name[i+1:])
			check(t, name[:i]+strings.ToUpper(name[i:i+1])+name[i+1:])
			check(t, name[:i]+strings.ToUpper(name[i:]))
		}
		for c := range 256 {
			one := string([]byte{byte(c)})
			for i := range len(name) + 1 {
				check(t, name[:i]+one+name[i:])
			}
			for i := range len(name) {
				check(t, name[:i]+one+name[i+1:])
			}
		}
	}
}

// TestShort: the empty name, and each name of one byte and of two; `on` with each byte behind it is in TestNear.
func TestShort(t *testing.T) {
	check(t, "")
	for a := range 256 {
		check(t, string([]byte{byte(a)}))
		for b := range 256 {
			check(t, string([]byte{byte(a), byte(b)}))
		}
	}
}

// TestNoSigns: bytes that are of no sign, and signs that lower to a letter elsewhere, are bytes like others.
func TestNoSigns(t *testing.T) {
	for _, name := range []string{
		"\x00", "\xff", "\xc3", "\xed\xa0\x80", "br\x00", "\xffbr", "scr\xffipt", "\u017fcript", "lin\u212a", "\u0130mg",
		"href\x00", "\xffhref", "\u017frc", "on\xff", "on\x00", "on\xc3\xa9", "o\xffn", "\u00f6n", "\xffon", "\xffonclick", "\xef\xbb\xbfonclick",
	} {
		check(t, name)
	}
}

// TestLong: a name is not cut, however long it is.
func TestLong(t *testing.T) {
	for _, n := range []int{api.MaxName - 2, api.MaxName, api.MaxText} {
		much := strings.Repeat("n", n)
		for _, name := range allNames() {
			check(t, name+much)
			check(t, much+name)
		}
	}
}

// TestOfTokens: the names of a page that is read, which are lowered, are known.
func TestOfTokens(t *testing.T) {
	all, e := tok.Tokens("<IMG SRC=a OnClick=b STYLE=c Alt=d><Script>x</Script>")
	if e != api.OK || len(all) != 4 || len(all[0].Attrs) != 4 {
		t.Fatalf("Tokens: %+v, %d", all, e)
	}
	if Kind(all[0].Name) != api.ElemVoid || Kind(all[1].Name) != api.ElemScript {
		t.Errorf("P6.1: Kind of %q, %q", all[0].Name, all[1].Name)
	}
	for i, want := range []int{api.AttrUrl, api.AttrJs, api.AttrCss, api.AttrPlain} {
		if got := Attr(all[0].Attrs[i].Name); got != want {
			t.Errorf("P6.1: Attr(%q) = %d, want %d", all[0].Attrs[i].Name, got, want)
		}
	}
}

// TestHeldAsKind: layer 5 holds back the content of just those elements whose Kind asks for it.
func TestHeldAsKind(t *testing.T) {
	for _, name := range append(allNames(), "p", "scripts", "titl", "textareas", "styl") {
		s := tok.Step(api.State{At: api.StateTagName, Name: name}, '>')
		isHeld := Kind(name) != api.ElemPlain && Kind(name) != api.ElemVoid
		if (s.At == api.StateHeld) != isHeld {
			t.Errorf("P5.1: behind <%s>: %+v, Kind %d", name, s, Kind(name))
		}
	}
}

func TestAtOneTime(t *testing.T) {
	var all sync.WaitGroup
	for range 8 {
		all.Go(func() {
			for _, name := range allNames() {
				if Kind(name) != wantKind(name) || Attr(name) != wantAttr(name) {
					t.Errorf("R5: of %q: %d, %d", name, Kind(name), Attr(name))
				}
			}
		})
	}
	all.Wait()
}
