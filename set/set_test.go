package set

import (
	"fmt"
	"slices"
	"strings"
	"testing"

	"stole/api"
	"stole/tmpl"
)

func text(s string) api.Item { return api.Item{Kind: api.ItemText, Text: s} }

func hole(p ...api.Cmd) api.Item { return api.Item{Kind: api.ItemHole, Pipe: p} }

func assign(name string, p ...api.Cmd) api.Item {
	return api.Item{Kind: api.ItemSet, Text: name, Pipe: p}
}

func call(name string, p ...api.Cmd) api.Item {
	return api.Item{Kind: api.ItemCall, Text: name, Pipe: p}
}

func nest(kind int, then, other []api.Item, p ...api.Cmd) api.Item {
	return api.Item{Kind: kind, Pipe: p, Then: then, Else: other}
}

func of(items ...api.Item) []api.Item { return items }

func cmd(fn string, args ...api.Arg) api.Cmd { return api.Cmd{Fn: fn, Args: args} }

func number(n int) api.Arg { return api.Arg{Kind: api.ArgInt, Int: n} }

func quoted(s string) api.Arg { return api.Arg{Kind: api.ArgText, Text: s} }

// dot is the command that most items here ask for.
func dot(path ...string) api.Cmd { return cmd("", api.Arg{Path: path}) }

var (
	goes = api.Item{Kind: api.ItemContinue}
	ends = api.Item{Kind: api.ItemBreak}
)

func template(name, source string) api.Template { return api.Template{Name: name, Source: source} }

func named(name string, items ...api.Item) api.Named { return api.Named{Name: name, Items: items} }

func shown(x any) string { return fmt.Sprintf("%.500s", fmt.Sprintf("%+v", x)) }

func sameArg(a, b api.Arg) bool {
	return a.Kind == b.Kind && a.Name == b.Name && a.Int == b.Int && a.Text == b.Text && slices.Equal(a.Path, b.Path)
}

func sameCmd(a, b api.Cmd) bool { return a.Fn == b.Fn && slices.EqualFunc(a.Args, b.Args, sameArg) }

// same tells whether items are one, each part of them.
func same(x, y []api.Item) bool {
	return slices.EqualFunc(x, y, func(a, b api.Item) bool {
		return a.Kind == b.Kind && a.Text == b.Text && slices.EqualFunc(a.Pipe, b.Pipe, sameCmd) && same(a.Then, b.Then) && same(a.Else, b.Else)
	})
}

// sameSet tells whether templates are one, each part of them.
func sameSet(x, y []api.Named) bool {
	return slices.EqualFunc(x, y, func(a, b api.Named) bool { return a.Name == b.Name && same(a.Items, b.Items) })
}

// check holds Read of templates against what is wanted, and May of it.
func check(t *testing.T, ts []api.Template, want ...api.Named) {
	t.Helper()
	got, e := Read(ts)
	if e != api.OK || !sameSet(got, want) {
		t.Errorf("P17.1: Read(%s) = %s, %d, want %s", shown(ts), shown(got), e, shown(want))
	}
	if !May(got) {
		t.Errorf("P17.2: what Read(%s) tells may not be", shown(ts))
	}
}

// refuse holds Read of sets against an error, with nothing beside it (R2).
func refuse(t *testing.T, want api.Errno, sets ...[]api.Template) {
	t.Helper()
	for _, ts := range sets {
		if got, e := Read(ts); len(got) != 0 || e != want {
			t.Errorf("P17.1, R2: Read(%s) = %s, %d, want %d", shown(ts), shown(got), e, want)
		}
	}
}

func times(n int, s string) string { return strings.Repeat(s, n) }

// row gives a row of templates, of sources; their names are t0, t1 ..
func row(sources ...string) []api.Template {
	var out []api.Template
	for i, s := range sources {
		out = append(out, template(fmt.Sprint("t", i), s))
	}
	return out
}

// titled gives a row of templates with empty sources, of names.
func titled(names ...string) []api.Template {
	var out []api.Template
	for _, n := range names {
		out = append(out, template(n, ""))
	}
	return out
}

// isTitle tells whether a set of one template of this name is read, and may be; both must say the same.
func isTitle(t *testing.T, name string) bool {
	t.Helper()
	got, e := Read(titled(name))
	may := May([]api.Named{{Name: name}})
	switch {
	case e == api.OK && sameSet(got, []api.Named{{Name: name}}) && may:
		return true
	case e != api.ErrSetForm || len(got) != 0 || may:
		t.Errorf("P17.1, P17.2: of the name %.100q: %s, %d, %v", name, shown(got), e, may)
	}
	return false
}

func TestHowMany(t *testing.T) {
	refuse(t, api.ErrSetForm, nil, []api.Template{}, make([]api.Template, 0, 5))
	for n := range 3 * api.MaxSet {
		ts := row(slices.Repeat([]string{"a"}, n)...)
		var want []api.Named
		for i := range n {
			want = append(want, named(fmt.Sprint("t", i), text("a")))
		}
		if n < 1 || n > api.MaxSet {
			refuse(t, api.ErrSetForm, ts)
			if May(want) {
				t.Errorf("P17.2: %d templates may be", n)
			}
			continue
		}
		check(t, ts, want...)
	}
	refuse(t, api.ErrSetForm, make([]api.Template, 100000), row(slices.Repeat([]string{"{{"}, api.MaxSet+1)...), titled(slices.Repeat([]string{"a"}, api.MaxSet+1)...))
	refuse(t, api.ErrSetName, titled(slices.Repeat([]string{"a"}, api.MaxSet)...))
}

func TestNames(t *testing.T) {
	const holds = "ABCDEFGHIJKLMNOPQRSTUVWXYZabcdefghijklmnopqrstuvwxyz0123456789_.-"
	for b := range 256 {
		s := string([]byte{byte(b)})
		want := strings.Contains(holds, s)
		for _, name := range []string{s, s + "a", "a" + s, "a" + s + "b", s + s, times(api.MaxName-1, "n") + s, s + times(api.MaxName-1, "9"), times(api.MaxName/2, "-") + s + times(api.MaxName/2-1, ".")} {
			if is := isTitle(t, name); is != want {
				t.Errorf("P17.1: of the name %.100q: %v", name, is)
			}
		}
	}
	for n := range 3 * api.MaxName {
		for _, c := range []string{"a", "Z", "0", "_", ".", "-"} {
			if is := isTitle(t, times(n, c)); is != (1 <= n && n <= api.MaxName) {
				t.Errorf("P17.1: of %d times %s: %v", n, c, is)
			}
		}
	}
	for _, name := range []string{"é", "aé", "ª", "ａ", "a·", "٣", "a²", "\ufeffa", "a\u0301", "\xffa", "a\xc3", "a–b", "a b", " a", "a\n", "a/b", "a\x00", "{{.}}", "\"a\"", times(api.MaxText, "n"), times(1<<20, "n")} {
		if isTitle(t, name) {
			t.Errorf("P17.1: %.100q is a name", name)
		}
	}
	for _, name := range []string{"a", "_", ".", "-", "..", "0", "-1", "a.b-c_d", "end", "if", "template", "null", "Page.html", "9.9"} {
		if !isTitle(t, name) {
			t.Errorf("P17.1: %q is no name", name)
		}
	}
}

// TestEachName: one that is none, at each place of a set.
func TestEachName(t *testing.T) {
	for n := 1; n <= api.MaxSet; n++ {
		for at := range n {
			for _, wrong := range []string{"", "a b", "é", times(api.MaxName+1, "n")} {
				ts := row(make([]string, n)...)
				ts[at].Name = wrong
				refuse(t, api.ErrSetForm, ts)
			}
		}
	}
}

func TestErrSetName(t *testing.T) {
	long := times(api.MaxName, "n")
	refuse(t, api.ErrSetName, titled("a", "a"), titled("a", "b", "a"), titled("a", "b", "b"), titled("b", "a", "a", "c"), titled("a", "a", "a"), titled("a", "b", "a", "b"), titled(".", "."), titled("-", "_", "-"), titled(long, "n", long), titled("0", "0"))
	for n := 2; n <= api.MaxSet; n++ {
		for i := range n {
			for j := range i {
				ts := row(make([]string, n)...)
				ts[i].Name = ts[j].Name
				refuse(t, api.ErrSetName, ts)
				ns := make([]api.Named, n)
				for k := range ns {
					ns[k].Name = ts[k].Name
				}
				if May(ns) {
					t.Errorf("P17.2: with two of the name %s", ts[j].Name)
				}
			}
		}
	}
	// By a letter's size, by one byte more or less they are not the same.
	for _, names := range [][]string{{"a", "A"}, {"Ab", "aB", "AB", "ab"}, {"a", "aa", "aaa"}, {"a", "a.", "a-", "a_", ".a", "-a", "_a"}, {long, long[1:]}, {long, long[1:] + "N"}, {"0", "00"}, {"1", "1.0"}} {
		var want []api.Named
		for _, n := range names {
			want = append(want, named(n))
		}
		check(t, titled(names...), want...)
	}
}

// faulty are sources with an error of each layer ahead, each error of each.
func faulty() map[string]api.Errno {
	return map[string]api.Errno{
		"{{": api.ErrLexOpen, "a{{/* b": api.ErrLexOpen, times(api.MaxText+1, "a"): api.ErrLexLong, "{{" + times(api.MaxAction+1, "a") + "}}": api.ErrLexLong, times(api.MaxPieces+1, "{{.}}"): api.ErrLexMany,
		"{{?}}": api.ErrWordsForm, "{{\"\\q\"}}": api.ErrWordsText, "{{-}}": api.ErrWordsInt,
		"{{foo}}": api.ErrPipeForm, "{{if}}": api.ErrPipeForm, "{{cat 1 2 3 4 5 6 7 8 9}}": api.ErrPipeMany,
		"{{end}}": api.ErrTmplEnd, "{{if .}}": api.ErrTmplEnd, "{{else}}": api.ErrTmplElse, "{{break}}": api.ErrTmplLoop, times(api.MaxBlocks+1, "{{with .}}"): api.ErrTmplDeep, "{{}}": api.ErrTmplAction, "{{template t}}": api.ErrTmplAction,
	}
}

func TestSourcesInTheirRow(t *testing.T) {
	for s, e := range faulty() {
		refuse(t, e, row(s), row("a", s), row(s, "a"), row("{{.}}", "b", s, "c"), row(append(make([]string, api.MaxSet-1), s)...), row(s, s))
		for other := range faulty() {
			refuse(t, e, row(s, other), row("a", s, "b", other), row("", "", s, other, ""), row("{{template \"t1\"}}", s, other))
		}
		// Ahead of it stands what is wrong with names, behind it a call of a template that there is not.
		refuse(t, api.ErrSetForm, []api.Template{template("a", s), template("", "")}, []api.Template{template("a b", s)}, []api.Template{template("é", ""), template("a", s)}, row(slices.Repeat([]string{s}, api.MaxSet+1)...))
		refuse(t, api.ErrSetName, []api.Template{template("a", s), template("a", "")}, []api.Template{template("a", ""), template("b", s), template("a", "{{")})
		refuse(t, e, row("{{template \"u\"}}", s), row(s, "{{template \"u\"}}"), row("{{if .}}{{template \"\"}}{{end}}", "", "", s))
	}
}

// TestErrorsInTheirRank: each two faults of a set, at each two places; the one that the chapter names first is told.
func TestErrorsInTheirRank(t *testing.T) {
	type fault struct {
		err  api.Errno
		rank int
		put  func(ts []api.Template, at int)
	}
	name := func(s string) func(ts []api.Template, at int) {
		return func(ts []api.Template, at int) { ts[at].Name = s }
	}
	source := func(s string) func(ts []api.Template, at int) {
		return func(ts []api.Template, at int) { ts[at].Source = s }
	}
	faults := []fault{
		{api.ErrSetForm, 1, name("")}, {api.ErrSetForm, 1, name("a b")}, {api.ErrSetForm, 1, name(times(api.MaxName+1, "n"))},
		{api.ErrSetName, 2, func(ts []api.Template, at int) { ts[at].Name = "same"; ts[len(ts)-1-at].Name = "same" }},
		{api.ErrLexOpen, 3, source("{{template \"t0\"}}{{")}, {api.ErrWordsForm, 3, source("{{template \"u\"}}{{?}}")}, {api.ErrPipeForm, 3, source("{{foo}}{{template \"u\"}}")}, {api.ErrTmplEnd, 3, source("{{if .}}{{template \"u\"}}")},
		{api.ErrSetCall, 4, source("{{template \"u\"}}")}, {api.ErrSetCall, 4, source("{{if .}}{{else}}{{template \"T0\"}}{{end}}")},
	}
	for _, f := range faults {
		for _, g := range faults {
			for _, at := range [][2]int{{0, 1}, {1, 0}, {0, 2}, {2, 1}, {0, 4}, {4, 3}, {5, 1}} {
				ts := row("a", "{{.}}", "", "{{if .}}b{{end}}", "{{template \"t2\"}}", "c")
				g.put(ts, at[1])
				f.put(ts, at[0])
				want := f.err
				if g.rank < f.rank || g.rank == f.rank && at[1] < at[0] {
					want = g.err
				}
				refuse(t, want, ts)
			}
		}
	}
}

func TestErrSetCall(t *testing.T) {
	for _, told := range []string{"u", "", "T0", "t", "t00", "t0 ", " t0", "t1", "é", "t\\t", "\\\"t0\\\"", "end", times(200, "t")} {
		for _, c := range []string{"{{template \"" + told + "\"}}", "{{template \"" + told + "\" .}}", "{{ template \"" + told + "\" len \"t0\" | not -}}"} {
			refuse(t, api.ErrSetCall, row(c), row("a"+c+"b"), row("{{template \"t0\"}}"+c), row(c+"{{template \"t0\"}}"))
			for _, begin := range []string{"{{if .}}", "{{with .}}", "{{range .}}", "{{if .}}a{{else}}", "{{with .}}{{else}}b", "{{range .}}{{template \"t0\"}}{{else}}"} {
				for n := range api.MaxBlocks + 1 {
					refuse(t, api.ErrSetCall, row(times(n, begin)+c+times(n, "{{end}}")))
				}
			}
			if told == "t1" {
				continue
			}
			for at := range api.MaxSet {
				sources := slices.Repeat([]string{"a{{template \"t0\"}}"}, api.MaxSet)
				sources[at] = "{{range .}}" + c + "{{end}}"
				refuse(t, api.ErrSetCall, row(sources...))
			}
		}
	}
}

// TestCalls: of the template itself, of one ahead and of one behind, in whatever depth.
func TestCalls(t *testing.T) {
	check(t, row(`{{template "t0"}}`), named("t0", call("t0")))
	check(t, row(`{{template "t1"}}`, `{{template "t0"}}`), named("t0", call("t1")), named("t1", call("t0")))
	check(t, row(`{{template "t0" .}}`, `{{template "t0"}}{{template "t1" .a}}{{template "t2"}}`, ``), named("t0", call("t0", dot())), named("t1", call("t0"), call("t1", dot("a")), call("t2")), named("t2"))
	for i := range 3 {
		for j := range 3 {
			name := fmt.Sprint("t", j)
			sources := make([]string, 3)
			want := []api.Named{named("t0"), named("t1"), named("t2")}
			inner, items := "{{template \""+name+"\"}}", of(call(name))
			for depth := range api.MaxBlocks + 1 {
				sources[i], want[i].Items = inner, items
				check(t, row(sources...), want...)
				if depth%2 == 0 {
					inner, items = "{{range .}}"+inner+"{{end}}", of(nest(api.ItemRange, items, nil, dot()))
				} else {
					inner, items = "{{with .}}{{else}}"+inner+"{{end}}", of(nest(api.ItemWith, nil, items, dot()))
				}
			}
		}
	}
	// What is no call is not asked for.
	check(t, row(`{{/* {{template "u"}} */}}{{"u"}}{{$u := "u"}}{{$u}}template "u"`), named("t0", hole(cmd("", quoted("u"))), assign("u", cmd("", quoted("u"))), hole(cmd("", api.Arg{Kind: api.ArgVar, Name: "u"})), text(`template "u"`)))
	check(t, row(`{{template "t0" "u"}}`), named("t0", call("t0", cmd("", quoted("u")))))
	check(t, []api.Template{template("a.b-c_9", `{{template "a.b-c_9"}}`)}, named("a.b-c_9", call("a.b-c_9")))
	long := times(api.MaxName, "n")
	check(t, []api.Template{template(long, ""), template("end", "{{template \""+long+"\"}}")}, named(long), named("end", call(long)))
}

func TestWhatIsAnswered(t *testing.T) {
	check(t, row(""), named("t0"))
	check(t, row("", ""), named("t0"), named("t1"))
	check(t, []api.Template{template("z", "a"), template("a", "{{.b}}"), template("M", "a")}, named("z", text("a")), named("a", hole(dot("b"))), named("M", text("a")))
	check(t, row("a\r\n{{range .x}}{{if eq . 1}}{{break}}{{else}}{{continue}}{{end}}{{$v := cat .a \"b\"}}{{template \"t1\" $v.c | len}}{{else}}d{{end}}", "{{with 1}}e{{end}}"),
		named("t0", text("a\n"), nest(api.ItemRange, of(nest(api.ItemIf, of(ends), of(goes), cmd("eq", api.Arg{}, number(1))), assign("v", cmd("cat", api.Arg{Path: []string{"a"}}, quoted("b"))), call("t1", cmd("", api.Arg{Kind: api.ArgVar, Name: "v", Path: []string{"c"}}), cmd("len"))), of(text("d")), dot("x"))),
		named("t1", nest(api.ItemWith, of(text("e")), nil, cmd("", number(1)))))
	// Each template has the room of its own for texts and pieces.
	full, many := times(api.MaxText, "t"), times(api.MaxPieces, "{{.}}")
	var sources []string
	var want []api.Named
	for i := range api.MaxSet {
		sources = append(sources, full)
		want = append(want, named(fmt.Sprint("t", i), text(full)))
		if i%2 == 1 {
			sources[i], want[i].Items = many, slices.Repeat(of(hole(dot())), api.MaxPieces)
		}
	}
	check(t, row(sources...), want...)
	check(t, row(times(api.MaxBlocks, "{{if .}}")+times(api.MaxBlocks, "{{end}}"), "\xff\x00"), named("t0", deep(api.MaxBlocks, api.ItemIf)...), named("t1", text("\xff\x00")))
	for _, s := range []string{busy, "", "a", times(300, "{{if .}}a{{end}}")} {
		items, e := tmpl.Parse(s)
		if e != api.OK {
			t.Fatal(e)
		}
		check(t, []api.Template{template("t", s), template("p", ""), template("u", s)}, named("t", items...), named("p"), named("u", items...))
	}
}

// deep gives so many empty blocks of a Kind, each within the one ahead.
func deep(n, kind int) []api.Item {
	var items []api.Item
	for range n {
		items = of(nest(kind, items, nil, dot()))
	}
	return items
}
