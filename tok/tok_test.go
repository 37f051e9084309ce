package tok

import (
	"math"
	"strings"
	"sync"
	"testing"

	"stole/api"
)

// The classes of bytes that the table of P5.1 names.
const (
	blanks  = "\t\n\f\r "
	great   = "ABCDEFGHIJKLMNOPQRSTUVWXYZ"
	small   = "abcdefghijklmnopqrstuvwxyz"
	letters = great + small
)

// low is the byte c, a small letter for a great one.
func low(c byte) string {
	if at := strings.IndexByte(great, c); at >= 0 {
		return small[at : at+1]
	}
	return string([]byte{c})
}

// A row is what comes of the bytes of a class; the last row of a state has none, and stands for all others.
type row struct {
	class string
	then  func(c byte) api.State
}

// is gives a state whatever the byte is.
func is(s api.State) func(byte) api.State {
	return func(byte) api.State { return s }
}

// at gives a state without parts.
func at(x int) func(byte) api.State {
	return is(api.State{At: x})
}

// rowsOf gives the table's rows of a state that has the parts of s.
func rowsOf(s api.State) []row {
	tag := func(x int) func(byte) api.State { return is(api.State{At: x, Name: s.Name, End: s.End}) }
	named := func(x int) func(byte) api.State {
		return is(api.State{At: x, Name: s.Name, End: s.End, Attr: s.Attr})
	}
	newAttr := func(c byte) api.State {
		return api.State{At: api.StateAttrName, Name: s.Name, End: s.End, Attr: low(c)}
	}
	held := func(x int) func(byte) api.State { return is(api.State{At: x, Held: s.Held}) }
	shut := at(api.StateData)
	if !s.End && strings.Contains(" title textarea script style ", " "+s.Name+" ") {
		shut = is(api.State{At: api.StateHeld, Held: s.Name})
	}
	switch s.At {
	case api.StateData:
		return []row{{"<", at(api.StateTagOpen)}, {"", at(api.StateData)}}
	case api.StateTagOpen:
		name := func(c byte) api.State { return api.State{At: api.StateTagName, Name: low(c)} }
		return []row{{letters, name}, {"/", at(api.StateEndOpen)}, {"!", at(api.StateBang)}, {"<", at(api.StateTagOpen)}, {"", at(api.StateData)}}
	case api.StateEndOpen:
		name := func(c byte) api.State { return api.State{At: api.StateTagName, Name: low(c), End: true} }
		return []row{{letters, name}, {"<", at(api.StateTagOpen)}, {"", at(api.StateData)}}
	case api.StateTagName:
		on := func(c byte) api.State {
			return api.State{At: api.StateTagName, Name: s.Name + low(c), End: s.End}
		}
		return []row{{blanks, tag(api.StateBeforeAttr)}, {"/", tag(api.StateSelfClose)}, {">", shut}, {"", on}}
	case api.StateBeforeAttr:
		return []row{{blanks, tag(api.StateBeforeAttr)}, {"/", tag(api.StateSelfClose)}, {">", shut}, {"", newAttr}}
	case api.StateAttrName:
		on := func(c byte) api.State {
			return api.State{At: api.StateAttrName, Name: s.Name, End: s.End, Attr: s.Attr + low(c)}
		}
		return []row{{blanks, named(api.StateAfterName)}, {"/", tag(api.StateSelfClose)}, {">", shut}, {"=", named(api.StateBeforeValue)}, {"", on}}
	case api.StateAfterName:
		return []row{{blanks, named(api.StateAfterName)}, {"/", tag(api.StateSelfClose)}, {">", shut}, {"=", named(api.StateBeforeValue)}, {"", newAttr}}
	case api.StateBeforeValue:
		return []row{{blanks, named(api.StateBeforeValue)}, {"\"", named(api.StateDouble)}, {"'", named(api.StateSingle)}, {">", shut}, {"", named(api.StateBare)}}
	case api.StateDouble:
		return []row{{"\"", tag(api.StateAfterValue)}, {"", named(api.StateDouble)}}
	case api.StateSingle:
		return []row{{"'", tag(api.StateAfterValue)}, {"", named(api.StateSingle)}}
	case api.StateBare:
		return []row{{blanks, tag(api.StateBeforeAttr)}, {">", shut}, {"", named(api.StateBare)}}
	case api.StateAfterValue:
		return []row{{blanks, tag(api.StateBeforeAttr)}, {"/", tag(api.StateSelfClose)}, {">", shut}, {"", newAttr}}
	case api.StateSelfClose:
		return []row{{">", shut}, {blanks, tag(api.StateBeforeAttr)}, {"/", tag(api.StateSelfClose)}, {"", newAttr}}
	case api.StateBang:
		return []row{{"-", at(api.StateBangDash)}, {">", at(api.StateData)}, {"", at(api.StateBogus)}}
	case api.StateBangDash:
		return []row{{"-", at(api.StateComment)}, {">", at(api.StateData)}, {"", at(api.StateBogus)}}
	case api.StateComment:
		return []row{{"-", at(api.StateCommentDash)}, {"", at(api.StateComment)}}
	case api.StateCommentDash:
		return []row{{"-", at(api.StateCommentEnd)}, {"", at(api.StateComment)}}
	case api.StateCommentEnd:
		return []row{{">", at(api.StateData)}, {"-", at(api.StateCommentEnd)}, {"", at(api.StateComment)}}
	case api.StateBogus:
		return []row{{">", at(api.StateData)}, {"", at(api.StateBogus)}}
	case api.StateHeld:
		return []row{{"<", held(api.StateHeldLt)}, {"", held(api.StateHeld)}}
	case api.StateHeldLt:
		return []row{{"/", held(api.StateHeldSlash)}, {"<", held(api.StateHeldLt)}, {"", held(api.StateHeld)}}
	}
	return heldRows(s, held)
}

// heldRows gives the rows of HeldSlash and of HeldName.
func heldRows(s api.State, held func(int) func(byte) api.State) []row {
	out := []row{{"<", held(api.StateHeldLt)}, {"", held(api.StateHeld)}}
	if s.At == api.StateHeldName && s.Read >= len(s.Held) {
		end := func(x int) func(byte) api.State { return is(api.State{At: x, Name: s.Held, End: true}) }
		return append([]row{{blanks, end(api.StateBeforeAttr)}, {"/", end(api.StateSelfClose)}, {">", at(api.StateData)}}, out...)
	}
	if s.Read < 0 || s.Read >= len(s.Held) {
		return out
	}
	next := low(s.Held[s.Read])
	both := next
	if at := strings.Index(small, next); at >= 0 {
		both += great[at : at+1]
	}
	more := is(api.State{At: api.StateHeldName, Held: s.Held, Read: s.Read + 1})
	return append([]row{{both, more}}, out...)
}

// wanted gives what the table says of a state whose parts are its own.
func wanted(s api.State, c byte) api.State {
	rows := rowsOf(s)
	for _, r := range rows {
		if strings.IndexByte(r.class, c) >= 0 {
			return r.then(c)
		}
	}
	return rows[len(rows)-1].then(c)
}

// checkBytes holds Step of each byte against the table.
func checkBytes(t *testing.T, s api.State) {
	t.Helper()
	for c := range 256 {
		if got, want := Step(s, byte(c)), wanted(s, byte(c)); got != want {
			t.Errorf("P5.1: Step(%+v, %q) = %+v, want %+v", s, byte(c), got, want)
		}
	}
}

// fitted gives s at x with just the parts that a state has there.
func fitted(s api.State, x int) api.State {
	out := api.State{At: x}
	if x >= 3 && x <= 12 {
		out.Name, out.End = s.Name, s.End
	}
	if x >= 5 && x <= 10 {
		out.Attr = s.Attr
	}
	if x >= 19 {
		out.Held = s.Held
	}
	if x == 22 {
		out.Read = s.Read
	}
	return out
}

func TestStart(t *testing.T) {
	if got := Start(); got != (api.State{}) {
		t.Errorf("P5.1: Start() = %+v", got)
	}
}

func TestStepOfEachStateAndByte(t *testing.T) {
	for _, s := range []api.State{
		{Name: "p", Attr: "q", Held: "title", Read: 2},
		{Name: "p", Attr: "q", Held: "textarea", Read: 8, End: true},
		{Name: "script", Attr: "=\xff", Held: "script", Read: 1},
		{Name: "script", Attr: "=\xff", Held: "script", Read: 6, End: true},
		{Name: "style", Attr: "style", Held: "style", Read: 4},
		{Name: "br", Attr: "a\x00", Held: "x-9", Read: 1},
	} {
		for x := range 23 {
			checkBytes(t, fitted(s, x))
		}
	}
}

func TestStepOfPartsThatAreNotThere(t *testing.T) {
	for _, junk := range []api.State{
		{Name: "n", End: true, Attr: "a", Held: "title", Read: 3},
		{Name: "script", Attr: "b", Held: "style", Read: -1},
		{Name: "p", Attr: "b", Held: "script", Read: 99},
		{},
	} {
		for x := range 23 {
			s := junk
			s.At = x
			for c := range 256 {
				if got, want := Step(s, byte(c)), wanted(fitted(junk, x), byte(c)); got != want {
					t.Errorf("P5.1: Step(%+v, %q) = %+v, want %+v", s, byte(c), got, want)
				}
			}
		}
	}
}

func TestStepOfNoState(t *testing.T) {
	for _, x := range []int{math.MinInt, -23, -2, -1, 23, 24, 256, math.MaxInt} {
		for _, s := range []api.State{{At: x}, {At: x, Name: strings.Repeat("N", 99), End: true, Attr: "A", Held: "Title", Read: -7}} {
			for c := range 256 {
				if got := Step(s, byte(c)); got != s {
					t.Errorf("P5.1: Step(%+v, %q) = %+v, want it as it was", s, byte(c), got)
				}
			}
		}
	}
}

func TestNamesAtTheirLength(t *testing.T) {
	long := strings.Repeat("n", api.MaxName)
	for length := range api.MaxName + 3 {
		for c := range 256 {
			name := strings.Repeat("n", length)
			want := name + low(byte(c))
			if len(want) > api.MaxName {
				want = want[:api.MaxName]
			}
			tag := Step(api.State{At: api.StateTagName, Name: name, End: true}, byte(c))
			if tag.At == api.StateTagName && tag != (api.State{At: api.StateTagName, Name: want, End: true}) {
				t.Errorf("P5.1: a name of %d bytes and %q: %+v", length, byte(c), tag)
			}
			attr := Step(api.State{At: api.StateAttrName, Name: long, Attr: name}, byte(c))
			if attr.At == api.StateAttrName && attr != (api.State{At: api.StateAttrName, Name: long, Attr: want}) {
				t.Errorf("P5.1: an attribute's name of %d bytes and %q: %+v", length, byte(c), attr)
			}
		}
	}
	got := behind(Start(), "<"+strings.Repeat("N", api.MaxName)+"M "+strings.Repeat("A", api.MaxName)+"B=")
	if want := (api.State{At: api.StateBeforeValue, Name: long, Attr: strings.Repeat("a", api.MaxName)}); got != want {
		t.Errorf("P5.1: %+v, want %+v", got, want)
	}
	// What a byte is not added to is not cut: it stays.
	much := api.State{At: api.StateDouble, Name: long + "n", Attr: long + "a"}
	if got := Step(much, 'x'); got != much {
		t.Errorf("P5.1: %+v", got)
	}
}

// behind gives the state behind a page.
func behind(s api.State, page string) api.State {
	for i := range len(page) {
		s = Step(s, page[i])
	}
	return s
}

func TestClose(t *testing.T) {
	heldOnes := map[string]bool{"title": true, "textarea": true, "script": true, "style": true}
	for _, name := range []string{"title", "textarea", "script", "style", "br", "img", "input", "hr", "meta", "link", "p", "", "Script", "TITLE", "scripts", "scrip", "style "} {
		for x := 3; x <= 12; x++ {
			if x == api.StateDouble || x == api.StateSingle {
				continue
			}
			s := fitted(api.State{Name: name, Attr: "a"}, x)
			want := api.State{}
			if heldOnes[name] {
				want = api.State{At: api.StateHeld, Held: name}
			}
			if got := Step(s, '>'); got != want {
				t.Errorf("P5.1: Step(%+v, '>') = %+v, want %+v", s, got, want)
			}
			s.End = true
			if got := Step(s, '>'); got != (api.State{}) {
				t.Errorf("P5.1: Step(%+v, '>') = %+v, want StateData", s, got)
			}
		}
	}
	for page, want := range map[string]api.State{
		"<SCRIPT>":           {At: api.StateHeld, Held: "script"},
		"<Title a=b>":        {At: api.StateHeld, Held: "title"},
		"<textArea a='>'/ >": {At: api.StateHeld, Held: "textarea"},
		"<style/>":           {At: api.StateHeld, Held: "style"},
		"</script>":          {},
		"<br>":               {},
		"<p>":                {},
	} {
		if got := behind(Start(), page); got != want {
			t.Errorf("P5.1: behind %q: %+v, want %+v", page, got, want)
		}
	}
}

func TestHeldStates(t *testing.T) {
	for _, name := range []string{"title", "textarea", "script", "style", "TiTle", "p", "", "</", "a b", "\xffX\x00", "@[`{"} {
		for x := api.StateHeld; x <= api.StateHeldSlash; x++ {
			checkBytes(t, api.State{At: x, Held: name})
		}
		for read := -2; read <= len(name)+2; read++ {
			checkBytes(t, api.State{At: api.StateHeldName, Held: name, Read: read})
		}
		for _, read := range []int{math.MinInt, math.MaxInt} {
			checkBytes(t, api.State{At: api.StateHeldName, Held: name, Read: read})
		}
	}
	from := api.State{At: api.StateHeld, Held: "script"}
	for page, want := range map[string]api.State{
		"x</scr":        {At: api.StateHeldName, Held: "script", Read: 3},
		"</SCRIPT":      {At: api.StateHeldName, Held: "script", Read: 6},
		"</SCRIPT>":     {},
		"</sCrIpT\f":    {At: api.StateBeforeAttr, Name: "script", End: true},
		"</script/":     {At: api.StateSelfClose, Name: "script", End: true},
		"</script/>":    {},
		"</script>>":    {},
		"</scripts>":    from,
		"</scrip>":      from,
		"</ script>":    from,
		"< /script>":    from,
		"<</script>":    {},
		"</</script>":   {},
		"</sc</script>": {},
		"</script<":     {At: api.StateHeldLt, Held: "script"},
		"<!-- --><p>":   from,
	} {
		if got := behind(from, page); got != want {
			t.Errorf("P5.1: behind %q: %+v, want %+v", page, got, want)
		}
	}
}

func TestStepsAtOneTime(t *testing.T) {
	page := strings.Repeat("a<b c='d' e=\"f\" g=h i/><!-- x --><script>y</scr</script>", 20)
	want := behind(Start(), page+"<P Q=")
	var all sync.WaitGroup
	for range 8 {
		all.Go(func() {
			if got := behind(Start(), page+"<P Q="); got != want || got.Attr != "q" {
				t.Errorf("R5: %+v, want %+v", got, want)
			}
		})
	}
	all.Wait()
}
