package tmpl

import (
	"fmt"
	"slices"
	"strings"
	"sync"
	"testing"
	"time"
	"unsafe"

	"stole/api"
)

func text(s string) api.Item { return api.Item{Kind: api.ItemText, Text: s} }

func hole(p ...api.Cmd) api.Item { return api.Item{Kind: api.ItemHole, Pipe: p} }

func set(name string, p ...api.Cmd) api.Item {
	return api.Item{Kind: api.ItemSet, Text: name, Pipe: p}
}

func call(name string, p ...api.Cmd) api.Item {
	return api.Item{Kind: api.ItemCall, Text: name, Pipe: p}
}

func nest(kind int, then, other []api.Item, p ...api.Cmd) api.Item {
	return api.Item{Kind: kind, Pipe: p, Then: then, Else: other}
}

func of(items ...api.Item) []api.Item { return items }

func cmd(fn string, args ...api.Arg) api.Cmd { return api.Cmd{Fn: fn, Args: args} }

func number(n int) api.Arg { return api.Arg{Kind: api.ArgInt, Int: n} }

func quoted(s string) api.Arg { return api.Arg{Kind: api.ArgText, Text: s} }

func variable(name string, path ...string) api.Arg {
	return api.Arg{Kind: api.ArgVar, Name: name, Path: path}
}

// dot is the command that most sources here ask for.
func dot(path ...string) api.Cmd { return cmd("", api.Arg{Path: path}) }

var (
	goes = api.Item{Kind: api.ItemContinue}
	ends = api.Item{Kind: api.ItemBreak}
)

func shown(items []api.Item) string { return fmt.Sprintf("%.500s", fmt.Sprintf("%+v", items)) }

func sameArg(a, b api.Arg) bool {
	return a.Kind == b.Kind && a.Name == b.Name && a.Int == b.Int && a.Text == b.Text && slices.Equal(a.Path, b.Path)
}

func sameCmd(a, b api.Cmd) bool { return a.Fn == b.Fn && slices.EqualFunc(a.Args, b.Args, sameArg) }

// same tells whether items are one, each part of them: what an item has not is zero in both.
func same(x, y []api.Item) bool {
	return slices.EqualFunc(x, y, func(a, b api.Item) bool {
		return a.Kind == b.Kind && a.Text == b.Text && slices.EqualFunc(a.Pipe, b.Pipe, sameCmd) && same(a.Then, b.Then) && same(a.Else, b.Else)
	})
}

// check holds Parse of a source against the items that are wanted.
func check(t *testing.T, source string, want ...api.Item) {
	t.Helper()
	if got, e := Parse(source); e != api.OK || !same(got, want) {
		t.Errorf("P16.1: Parse(%.300q) = %s, %d, want %s", source, shown(got), e, shown(want))
	}
}

// refuse holds Parse of sources against an error, with nothing beside it (R2).
func refuse(t *testing.T, want api.Errno, sources ...string) {
	t.Helper()
	for _, s := range sources {
		if got, e := Parse(s); len(got) != 0 || e != want {
			t.Errorf("P16.1, R2: Parse(%.300q) = %s, %d, want %d", s, shown(got), e, want)
		}
	}
}

func times(n int, s string) string { return strings.Repeat(s, n) }

// begins are the blocks' names.
var begins = map[string]int{"if": api.ItemIf, "with": api.ItemWith, "range": api.ItemRange}

// stands gives the names that are told of the words that stand alone.
var stands = []string{"else", "end", "break", "continue"}

func TestPieces(t *testing.T) {
	check(t, "")
	check(t, "{{/* a */}}")
	check(t, "{{- /* a */ -}}")
	check(t, " {{- /* a */ -}} ")
	for _, s := range []string{"a", " ", "\n", "<p id=\"a\">", "}}", "{", "{ {a}}", "\x00\xff", "é\u2028", "a&amp;b", "end", times(api.MaxText, "t"), times(api.MaxText, "\xff")} {
		check(t, s, text(s))
	}
	check(t, "\r\na\rb", text("\na\nb"))
	check(t, "{{.}}", hole(dot()))
	check(t, "\n{{- . -}}\t", hole(dot()))
	check(t, "a{{.}}b", text("a"), hole(dot()), text("b"))
	check(t, "{{.}}{{.a}}", hole(dot()), hole(dot("a")))
	check(t, "{{.a}}b{{.c}}d", hole(dot("a")), text("b"), hole(dot("c")), text("d"))
	check(t, "a {{- .b }} c {{ .d -}} e", text("a"), hole(dot("b")), text(" c "), hole(dot("d")), text("e"))
	// Two texts with a comment between them stay two.
	check(t, "a{{/* b */}}c", text("a"), text("c"))
	check(t, "{{if .}}a{{/* b */}}c{{end}}", nest(api.ItemIf, of(text("a"), text("c")), nil, dot()))
	var want []api.Item
	for range api.MaxPieces / 2 {
		want = append(want, text("a"), hole(dot()))
	}
	check(t, times(api.MaxPieces/2, "a{{.}}"), want...)
	check(t, times(api.MaxPieces, "{{.}}"), slices.Repeat(of(hole(dot())), api.MaxPieces)...)
	check(t, times(api.MaxText-5, "t")+"{{.}}", text(times(api.MaxText-5, "t")), hole(dot()))
}

func TestBegins(t *testing.T) {
	long := cmd("cat", quoted("a }}"), variable("v", "b", "c"), number(-12), api.Arg{Kind: api.ArgBool, Int: 1}, api.Arg{Kind: api.ArgNull})
	for name, kind := range begins {
		for asked, p := range map[string][]api.Cmd{
			".": {dot()}, ".a.b": {dot("a", "b")}, "$v": {cmd("", variable("v"))}, "true": {cmd("", api.Arg{Kind: api.ArgBool, Int: 1})}, "\"\"": {cmd("", quoted(""))}, "len": {cmd("len")},
			". | not": {dot(), cmd("not")}, "eq .a 1|and true": {cmd("eq", api.Arg{Path: []string{"a"}}, number(1)), cmd("and", api.Arg{Kind: api.ArgBool, Int: 1})},
			"cat \"a }}\" $v.b.c -12 true null": {long},
		} {
			begin := "{{" + name + " " + asked + "}}"
			check(t, begin+"{{end}}", nest(kind, nil, nil, p...))
			check(t, begin+"{{else}}{{end}}", nest(kind, nil, nil, p...))
			check(t, begin+"a{{end}}", nest(kind, of(text("a")), nil, p...))
			check(t, begin+"a{{else}}{{end}}", nest(kind, of(text("a")), nil, p...))
			check(t, begin+"{{else}}a{{end}}", nest(kind, nil, of(text("a")), p...))
			check(t, "a"+begin+"b{{else}}c{{end}}d", text("a"), nest(kind, of(text("b")), of(text("c")), p...), text("d"))
			check(t, " {{- "+name+"\n\t"+asked+" -}} b {{- else -}} c {{- end -}} ", nest(kind, of(text("b")), of(text("c")), p...))
			check(t, begin+"{{.a}}b{{$c := 1}}{{else}}{{template \"d\"}}{{$e}}f{{end}}", nest(kind, of(hole(dot("a")), text("b"), set("c", cmd("", number(1)))), of(call("d"), hole(cmd("", variable("e"))), text("f")), p...))
		}
		refuse(t, api.ErrPipeForm, "{{"+name+"}}", "{{"+name+"}}{{end}}", "{{ "+name+" }}{{end}}", "a{{- "+name+" -}}b{{else}}{{end}}",
			"{{"+name+" |}}{{end}}", "{{"+name+"|len}}{{end}}", "{{"+name+" . .}}{{end}}", "{{"+name+" foo}}{{end}}", "{{"+name+" "+name+"}}{{end}}", "{{"+name+" else}}{{end}}", "{{"+name+" end}}", "{{"+name+" template \"t\"}}{{end}}",
			"{{"+name+" $v := 1}}{{end}}", "{{"+name+" := 1}}{{end}}", "{{"+name+" . | .}}{{end}}", "{{"+name+" . |}}{{end}}")
		refuse(t, api.ErrPipeMany, "{{"+name+" cat 1 2 3 4 5 6 7 8 9}}{{end}}", "{{"+name+" .|len|len|len|len|len|len|len|len}}{{end}}")
		check(t, "{{"+name+" cat 1 1 1 1 1 1 1 1}}{{end}}", nest(kind, nil, nil, cmd("cat", slices.Repeat([]api.Arg{number(1)}, api.MaxArgs)...)))
		check(t, "{{"+name+" .|len|len|len|len|len|len|len}}{{end}}", nest(kind, nil, nil, append([]api.Cmd{dot()}, slices.Repeat([]api.Cmd{cmd("len")}, api.MaxCmds-1)...)...))
	}
}

func TestWordsThatStandAlone(t *testing.T) {
	check(t, "{{range .}}{{break}}{{end}}", nest(api.ItemRange, of(ends), nil, dot()))
	check(t, "{{range .}}{{continue}}{{end}}", nest(api.ItemRange, of(goes), nil, dot()))
	check(t, "{{range .}} {{- break -}} {{else}}a{{ end }}", nest(api.ItemRange, of(ends), of(text("a")), dot()))
	check(t, "{{range .}}a{{continue}}b{{break}}c{{end}}", nest(api.ItemRange, of(text("a"), goes, text("b"), ends, text("c")), nil, dot()))
	check(t, "{{range .}}{{break}}{{break}}{{continue}}{{continue}}{{end}}", nest(api.ItemRange, of(ends, ends, goes, goes), nil, dot()))
	check(t, "{{if .}}a{{ else }}b{{ end }}", nest(api.ItemIf, of(text("a")), of(text("b")), dot()))
	check(t, "{{if .}}a{{\telse\n}}b{{end\n}}", nest(api.ItemIf, of(text("a")), of(text("b")), dot()))
}

func TestCalls(t *testing.T) {
	for told, name := range map[string]string{
		`"t"`: "t", `""`: "", `"a b"`: "a b", `"end"`: "end", `"a\"b\\\n\t"`: "a\"b\\\n\t", `"}}{{"`: "}}{{", `"` + times(api.MaxAction-len("template  .a.b")-2, "n") + `"`: times(api.MaxAction-len("template  .a.b")-2, "n"), "\"\xff\x00\"": "\xff\x00",
	} {
		check(t, "{{template "+told+"}}", call(name))
		check(t, "{{ template\n"+told+" }}", call(name))
		check(t, "{{template "+told+" .a.b}}", call(name, dot("a", "b")))
		check(t, "{{if .}}{{template "+told+" 1}}{{else}}{{template "+told+"}}{{end}}", nest(api.ItemIf, of(call(name, cmd("", number(1)))), of(call(name)), dot()))
		check(t, "a{{- template "+told+" -}}b", text("a"), call(name), text("b"))
	}
	check(t, `{{template "t" .x | len}}`, call("t", dot("x"), cmd("len")))
	check(t, `{{template "t" "t"}}`, call("t", cmd("", quoted("t"))))
	check(t, `{{template "t" true}}`, call("t", cmd("", api.Arg{Kind: api.ArgBool, Int: 1})))
	check(t, `{{template "t" null}}`, call("t", cmd("", api.Arg{Kind: api.ArgNull})))
	check(t, `{{template "t" cat "a" $v.b | eq 1 2}}`, call("t", cmd("cat", quoted("a"), variable("v", "b")), cmd("eq", number(1), number(2))))
	refuse(t, api.ErrPipeForm, `{{template "t" |}}`, `{{template "t"|len}}`, `{{template "t" . .}}`, `{{template "t" "a" "b"}}`, `{{template "t" foo}}`, `{{template "t" template}}`, `{{template "t" end}}`, `{{template "t" $v := 1}}`, `{{template "t" := 1}}`, `{{template "t" :=}}`, `{{template "t" . | .}}`)
	refuse(t, api.ErrPipeMany, `{{template "t" cat 1 2 3 4 5 6 7 8 9}}`, `{{template "t" len|len|len|len|len|len|len|len|len}}`)
}

func TestSets(t *testing.T) {
	for _, name := range []string{"a", "_", "Z_9", "if", "end", "else", "template", "break", "true", "null", "len", times(api.MaxName, "v")} {
		check(t, "{{$"+name+" := .}}", set(name, dot()))
		check(t, "{{$"+name+"\n:=\tlen $"+name+" | not }}", set(name, cmd("len", variable(name)), cmd("not")))
		check(t, "{{range .}}a{{- $"+name+" := 1 -}}b{{end}}", nest(api.ItemRange, of(text("a"), set(name, cmd("", number(1))), text("b")), nil, dot()))
		check(t, "{{$"+name+"}}", hole(cmd("", variable(name))))
		check(t, "{{$"+name+" | len}}", hole(cmd("", variable(name)), cmd("len")))
		check(t, "{{$"+name+"|len 1}}", hole(cmd("", variable(name)), cmd("len", number(1))))
		check(t, "{{$"+name+".a | len}}", hole(cmd("", variable(name, "a")), cmd("len")))
		refuse(t, api.ErrPipeForm, "{{$"+name+" :=}}", "{{$"+name+" := }}", "{{$"+name+".a := 1}}", "{{$"+name+".a.b := 1}}", "{{$"+name+".a :=}}", "{{$"+name+" := := 1}}", "{{$"+name+" := $b := 1}}", "{{$"+name+" := foo}}", "{{$"+name+" := end}}", "{{$"+name+" := if .}}", "{{$"+name+" := 1 2}}", "{{$"+name+" := |len}}", "{{$"+name+" 1 := 1}}", "{{$"+name+" $b := 1}}", "{{$"+name+" | := 1}}", "{{$"+name+" 1}}", "{{$"+name+" $b}}")
		refuse(t, api.ErrPipeMany, "{{$"+name+" := cat 1 2 3 4 5 6 7 8 9}}", "{{$"+name+" := .|len|len|len|len|len|len|len|len}}")
		refuse(t, api.ErrWordsForm, "{{$"+name+":= 1}}", "{{$"+name+" :=1}}", "{{$"+name+". := 1}}")
	}
}

// TestWordSetElsewhere: it is a hole's, then, and no pipe.
func TestWordSetElsewhere(t *testing.T) {
	refuse(t, api.ErrPipeForm, "{{:=}}", "{{:= 1}}", "{{:= $a}}", "{{:= $a := 1}}", "{{. := 1}}", "{{.a := 1}}", "{{1 := 1}}", "{{\"a\" := 1}}", "{{a := 1}}", "{{len := 1}}", "{{true := 1}}", "{{| $a := 1}}", "{{$a.b := $c := 1}}", "{{len $a := 1}}", "{{1 $a := 1}}", "{{. | $a := 1}}", "{{len :=}}", "{{cat 1 := 2}}")
	refuse(t, api.ErrWordsForm, "{{$:= 1}}", "{{$ := 1}}", "{{$}}", "{{$1 := 1}}", "{{$a = 1}}", "{{$"+times(api.MaxName+1, "v")+" := 1}}")
}

func TestHoles(t *testing.T) {
	for asked, p := range map[string][]api.Cmd{
		".": {dot()}, ".if": {dot("if")}, ".end.else": {dot("end", "else")}, "$v": {cmd("", variable("v"))}, "$v.a": {cmd("", variable("v", "a"))}, "$if": {cmd("", variable("if"))}, "$end.a": {cmd("", variable("end", "a"))},
		"1": {cmd("", number(1))}, "-0": {cmd("", number(0))}, `"a"`: {cmd("", quoted("a"))}, `""`: {cmd("", quoted(""))}, `"if"`: {cmd("", quoted("if"))}, `"end"`: {cmd("", quoted("end"))}, `"else"`: {cmd("", quoted("else"))}, `"break"`: {cmd("", quoted("break"))},
		"true": {cmd("", api.Arg{Kind: api.ArgBool, Int: 1})}, "false": {cmd("", api.Arg{Kind: api.ArgBool})}, "null": {cmd("", api.Arg{Kind: api.ArgNull})},
		"len": {cmd("len")}, "index .a 0": {cmd("index", api.Arg{Path: []string{"a"}}, number(0))}, "cat true null | len|not": {cmd("cat", api.Arg{Kind: api.ArgBool, Int: 1}, api.Arg{Kind: api.ArgNull}), cmd("len"), cmd("not")},
	} {
		check(t, "{{"+asked+"}}", hole(p...))
		check(t, "a{{- "+asked+" -}} b", text("a"), hole(p...), text("b"))
		check(t, "{{with .}}{{"+asked+"}}{{else}}{{"+asked+"}}{{end}}", nest(api.ItemWith, of(hole(p...)), of(hole(p...)), dot()))
	}
	for _, f := range []string{"len", "index", "eq", "lt", "not", "and", "or", "cat"} {
		check(t, "{{"+f+"}}", hole(cmd(f)))
		check(t, "{{"+f+" . 1}}", hole(cmd(f, api.Arg{}, number(1))))
	}
	refuse(t, api.ErrPipeForm, "{{. .}}", "{{.|.}}", "{{|}}", "{{|len}}", "{{len|}}", "{{len || len}}", "{{1 2}}", "{{\"if\" .}}", "{{\"template\" \"t\"}}", "{{.if .}}", "{{$if .}}", "{{true false}}", "{{null .}}", "{{len len}}")
	refuse(t, api.ErrPipeMany, "{{cat 1 2 3 4 5 6 7 8 9}}", "{{.|len|len|len|len|len|len|len|len}}")
}

// TestNamesThatAreNoneOfTheTable: they are a hole's, in whatever size their letters are.
func TestNamesThatAreNoneOfTheTable(t *testing.T) {
	for _, name := range []string{"if", "with", "range", "else", "end", "break", "continue", "template"} {
		for _, s := range []string{strings.ToUpper(name), strings.ToUpper(name[:1]) + name[1:], name[:len(name)-1] + strings.ToUpper(name[len(name)-1:]), name + "s", name + "_", "_" + name, name[1:], name[:len(name)-1], name + name, name + "1"} {
			refuse(t, api.ErrPipeForm, "{{"+s+"}}", "{{"+s+" .}}", "{{"+s+" \"t\"}}", "{{if .}}{{"+s+"}}{{end}}", "{{range .}}{{"+s+"}}{{end}}", "{{"+s+" .}}{{end}}", "{{if .}}{{"+s+"}}")
		}
		// It stands at another place than the first.
		refuse(t, api.ErrPipeForm, "{{. "+name+"}}", "{{len "+name+"}}", "{{$a := "+name+"}}", "{{$a "+name+"}}", "{{. | "+name+"}}", "{{| "+name+"}}", "{{\"a\" "+name+"}}", "{{if "+name+"}}{{end}}", "{{range . "+name+"}}{{end}}", "{{true "+name+" .}}")
	}
	refuse(t, api.ErrPipeForm, "{{foo}}", "{{define \"t\"}}", "{{block \"t\" .}}", "{{elseif .}}", "{{for .}}", "{{print .}}", "{{nil}}", "{{yes .}}")
}

func TestWhatIsWithinWhat(t *testing.T) {
	b := func(n string, then, other []api.Item) api.Item { return nest(api.ItemIf, then, other, dot(n)) }
	check(t, "{{if .a}}{{if .b}}{{end}}{{end}}", b("a", of(b("b", nil, nil)), nil))
	check(t, "{{if .a}}{{else}}{{if .b}}{{end}}{{end}}", b("a", nil, of(b("b", nil, nil))))
	check(t, "{{if .a}}{{if .b}}{{else}}{{end}}{{else}}{{end}}", b("a", of(b("b", nil, nil)), nil))
	check(t, "{{if .a}}1{{if .b}}2{{else}}3{{end}}4{{else}}5{{if .c}}6{{else}}7{{end}}8{{end}}9",
		b("a", of(text("1"), b("b", of(text("2")), of(text("3"))), text("4")), of(text("5"), b("c", of(text("6")), of(text("7"))), text("8"))), text("9"))
	check(t, "{{if .a}}{{end}}{{if .b}}{{end}}1{{if .c}}{{else}}2{{end}}", b("a", nil, nil), b("b", nil, nil), text("1"), b("c", nil, of(text("2"))))
	check(t, "{{if .a}}{{if .b}}1{{end}}2{{if .c}}3{{end}}{{else}}{{if .d}}4{{end}}{{if .e}}5{{else}}6{{end}}{{end}}{{.}}",
		b("a", of(b("b", of(text("1")), nil), text("2"), b("c", of(text("3")), nil)), of(b("d", of(text("4")), nil), b("e", of(text("5")), of(text("6"))))), hole(dot()))
	for outer, kind := range begins {
		for inner, within := range begins {
			leaf := nest(within, of(text("b")), of(text("c")), dot("i"))
			source := "{{" + inner + " .i}}b{{else}}c{{end}}"
			check(t, "{{"+outer+" .o}}a"+source+"d{{else}}e"+source+"f{{end}}g", nest(kind, of(text("a"), leaf, text("d")), of(text("e"), leaf, text("f")), dot("o")), text("g"))
		}
	}
	// As deep as may be, through Then, through Else, and through both by turns; a text stands ahead of and behind each block.
	for _, way := range []string{"t", "e", "te", "et"} {
		source, want := "x", of(text("x"))
		for i := range api.MaxBlocks {
			if way[i%len(way)] == 't' {
				source, want = "a{{with .}}"+source+"{{end}}b", of(text("a"), nest(api.ItemWith, want, nil, dot()), text("b"))
			} else {
				source, want = "a{{with .}}y{{else}}"+source+"{{end}}b", of(text("a"), nest(api.ItemWith, of(text("y")), want, dot()), text("b"))
			}
			check(t, source, want...)
		}
	}
}

func TestErrTmplAction(t *testing.T) {
	refuse(t, api.ErrTmplAction, "{{}}", "{{ }}", "{{\n\t}}", "a{{}}b", "{{- }}", "a{{-\n}}b", "{{.}}{{}}", "{{/**/}}{{ }}", "{{if .}}{{}}{{end}}", "{{if .}}{{else}}{{ }}{{end}}", "{{\r}}")
	for _, name := range stands {
		for _, others := range []string{" .", " 1", " \"a\"", " " + name, " |", "|len", " | len", " $v", " :=", " $v := 1", " if .", " if", " true", " foo", " len ."} {
			s := "{{" + name + others + "}}"
			refuse(t, api.ErrTmplAction, s, "a"+s, s+"{{end}}", "{{if .}}"+s+"{{end}}", "{{if .}}{{else}}"+s+"{{end}}", "{{range .}}"+s+"{{end}}", "{{range .}}{{else}}"+s+"{{end}}", "{{range .}}{{if .}}"+s, times(api.MaxBlocks, "{{with .}}")+s)
		}
	}
	for _, others := range []string{"", " ", " t", " .", " .t", " $t", " $t := 1", " 1", " |", "|len", " | len", " := \"t\"", " t \"t\"", " . \"t\"", " template \"t\"", " true", " null", " len", " end"} {
		refuse(t, api.ErrTmplAction, "{{template"+others+"}}", "a{{- template"+others+" -}}b", "{{range .}}{{template"+others+"}}{{end}}", "{{if .}}{{else}}{{template"+others+"}}{{end}}")
	}
}

func TestErrTmplElse(t *testing.T) {
	refuse(t, api.ErrTmplElse, "{{else}}", "a{{else}}", "{{.}}{{ else }}b", "{{else}}{{end}}", "{{else}}{{else}}", "{{$a := 1}}{{else}}", "{{template \"t\"}}{{else}}")
	for name := range begins {
		begin := "{{" + name + " .}}"
		refuse(t, api.ErrTmplElse, begin+"{{else}}{{else}}{{end}}", begin+"a{{else}}b{{else}}c{{end}}", begin+"{{else}}{{else}}", begin+"{{end}}{{else}}", begin+"{{else}}{{end}}{{else}}{{end}}", begin+"{{else}}"+begin+"{{else}}{{end}}{{else}}{{end}}", begin+"{{else}}"+begin+"{{end}}{{else}}{{end}}", begin+begin+"{{else}}{{end}}{{end}}{{else}}", begin+begin+"{{else}}{{else}}{{end}}{{end}}")
		// Behind an inner block's end it is the outer one's.
		check(t, begin+begin+"{{end}}{{else}}a{{end}}", nest(begins[name], of(nest(begins[name], nil, nil, dot())), of(text("a")), dot()))
		check(t, begin+begin+"{{else}}a{{end}}{{else}}b{{end}}", nest(begins[name], of(nest(begins[name], nil, of(text("a")), dot())), of(text("b")), dot()))
		check(t, begin+"{{else}}"+begin+"{{else}}a{{end}}b{{end}}", nest(begins[name], nil, of(nest(begins[name], nil, of(text("a")), dot()), text("b")), dot()))
	}
}

func TestErrTmplEnd(t *testing.T) {
	refuse(t, api.ErrTmplEnd, "{{end}}", "a{{end}}", "{{ end }}b", "{{end}}{{end}}", "{{.}}{{end}}", "{{$a := 1}}{{end}}", "{{template \"t\"}}{{end}}", "{{end}}{{if .}}", "{{end}}{{if .}}{{end}}")
	for name := range begins {
		begin := "{{" + name + " .}}"
		refuse(t, api.ErrTmplEnd, begin+"{{end}}{{end}}", begin+"{{else}}{{end}}{{end}}", begin+"{{end}}a{{end}}", begin+begin+"{{end}}{{end}}{{end}}",
			begin, begin+"a", "a"+begin, begin+"{{else}}", begin+"a{{else}}b", begin+begin+"{{end}}", begin+begin+"{{else}}{{end}}", begin+"{{end}}"+begin, begin+"{{else}}"+begin+"{{end}}", begin+"{{.}}{{$a := 1}}{{template \"t\"}}", begin+"{{else}}"+begin)
		for n := 1; n <= api.MaxBlocks; n++ {
			refuse(t, api.ErrTmplEnd, times(n, begin), times(n, begin)+times(n-1, "{{end}}"), times(n, begin)+times(n+1, "{{end}}"), times(n, begin+"a{{else}}"), times(n, begin+"{{else}}")+times(n-1, "{{end}}"))
		}
		// A begin without its end is told last: behind it each other fault comes ahead.
		for _, f := range faults() {
			refuse(t, f.err, begin+f.inIf, begin+"a"+f.inIf, begin+begin+"{{end}}"+f.inIf, begin+"{{else}}"+begin+f.inIf)
		}
	}
}

// fault is a fault that stands in no block, and the like in an if or with.
type fault struct {
	source string
	inIf   string
	err    api.Errno
}

// faults are of each error that is told of a piece.
func faults() []fault {
	deep := times(api.MaxBlocks+1, "{{with .}}")
	out := []fault{
		{"{{else}}", "{{else}}{{end}}{{else}}", api.ErrTmplElse},
		{"{{end}}", "{{end}}{{end}}{{end}}{{end}}", api.ErrTmplEnd},
		{deep, deep, api.ErrTmplDeep},
	}
	for source, err := range map[string]api.Errno{
		"{{}}": api.ErrTmplAction, "{{end .}}": api.ErrTmplAction, "{{else if .}}": api.ErrTmplAction, "{{break|}}": api.ErrTmplAction, "{{continue 1}}": api.ErrTmplAction, "{{template .}}": api.ErrTmplAction,
		"{{?}}": api.ErrWordsForm, "{{a.b}}": api.ErrWordsForm, "{{\"\\q\"}}": api.ErrWordsText, "{{-}}": api.ErrWordsInt, "{{9007199254740992}}": api.ErrWordsInt, "{{end ?}}": api.ErrWordsForm, "{{template \"\\q\"}}": api.ErrWordsText,
		"{{foo}}": api.ErrPipeForm, "{{if}}": api.ErrPipeForm, "{{with . .}}": api.ErrPipeForm, "{{range foo}}": api.ErrPipeForm, "{{$a :=}}": api.ErrPipeForm, "{{template \"t\" |}}": api.ErrPipeForm, "{{. := 1}}": api.ErrPipeForm,
		"{{cat 1 2 3 4 5 6 7 8 9}}": api.ErrPipeMany, "{{if len|len|len|len|len|len|len|len|len}}": api.ErrPipeMany,
	} {
		out = append(out, fault{source, source, err})
	}
	return out
}

// loopless gives faults of a break and a continue, that none of a range's Then are.
func loopless() []fault {
	return append(faults(), fault{"{{break}}", "{{end}}{{continue}}", api.ErrTmplLoop}, fault{"{{continue}}", "{{end}}{{break}}", api.ErrTmplLoop})
}

// TestTheFirstFault: of each two, whatever stands ahead of them and between them.
func TestTheFirstFault(t *testing.T) {
	for _, f := range loopless() {
		refuse(t, f.err, f.source, "a"+f.source+"b", "{{.}}"+f.source+"{{.}}", "{{if .}}a{{else}}b{{end}}"+f.source, "{{range .}}{{break}}{{end}}"+f.source, f.source+"{{if .}}", "{{$a := 1}}"+f.source+"{{end}}")
		for _, g := range loopless() {
			refuse(t, f.err, f.source+g.source, "a"+f.source+"b"+g.source+"c", "{{with .}}{{end}}"+f.source+"{{.}}"+g.source)
		}
	}
}

// TestFaultsOfTheSplit: they come ahead of all others, wherever they stand.
func TestFaultsOfTheSplit(t *testing.T) {
	tooLong := "{{" + times(api.MaxAction+1, "a") + "}}"
	for source, err := range map[string]api.Errno{
		"{{": api.ErrLexOpen, "{{a": api.ErrLexOpen, "{{/* a": api.ErrLexOpen, "{{/**/a}}": api.ErrLexOpen, "{{\"}}": api.ErrLexOpen, "{{}": api.ErrLexOpen,
		tooLong: api.ErrLexLong, tooLong + "{{": api.ErrLexOpen, times(api.MaxText+1, "t"): api.ErrLexLong, times(api.MaxText, "t") + "{{": api.ErrLexLong,
		times(api.MaxPieces+1, "{{.}}"): api.ErrLexMany, times(api.MaxPieces/2, "{{.}}a") + "{{.}}": api.ErrLexMany, times(api.MaxPieces, "{{.}}") + tooLong: api.ErrLexLong, times(2*api.MaxPieces, "{{end}}"): api.ErrLexMany, times(api.MaxPieces+1, "{{}}"): api.ErrLexMany,
	} {
		refuse(t, err, source, "a"+source, "{{if .}}"+source)
		for _, f := range loopless() {
			refuse(t, err, f.source+source)
		}
	}
	for _, f := range loopless() {
		refuse(t, api.ErrLexOpen, f.source+"{{", f.inIf+"{{ {{")
		refuse(t, api.ErrLexLong, tooLong+f.source)
		refuse(t, api.ErrLexMany, times(api.MaxPieces, "{{.}}")+f.source, f.source+times(api.MaxPieces, "{{.}}"))
	}
	// An action of MaxAction bytes, and MaxPieces pieces, are not too many.
	refuse(t, api.ErrWordsForm, "{{"+times(api.MaxAction, "a")+"}}")
	refuse(t, api.ErrTmplEnd, times(api.MaxPieces, "{{end}}"))
	refuse(t, api.ErrTmplAction, times(api.MaxPieces, "{{}}"))
}

// TestFaultsOfOneAction: its words' error ahead of what it is, that ahead of what it asks for, and where it stands last.
func TestFaultsOfOneAction(t *testing.T) {
	full := times(api.MaxBlocks, "{{with .}}")
	for _, name := range stands {
		refuse(t, api.ErrWordsForm, "{{"+name+" ?}}", "{{"+name+".}}", full+"{{"+name+" a.b}}")
		refuse(t, api.ErrWordsText, "{{"+name+" \"\\q\"}}", "{{range .}}{{"+name+" \"\\q\" ?}}")
		refuse(t, api.ErrWordsInt, "{{"+name+" 1 - ?}}", "{{if .}}{{"+name+" 9007199254740992 \"\\q\"}}")
	}
	for name := range begins {
		refuse(t, api.ErrWordsForm, full+"{{"+name+" ?}}", full+"{{"+name+" foo ?}}")
		refuse(t, api.ErrPipeForm, full+"{{"+name+"}}", full+"{{"+name+" foo}}", full+"{{"+name+" . .}}{{end}}", full+"{{"+name+" |}}"+times(api.MaxBlocks+1, "{{end}}"))
		refuse(t, api.ErrPipeMany, full+"{{"+name+" cat 1 2 3 4 5 6 7 8 9}}", full+"{{"+name+" .|len|len|len|len|len|len|len|len}}")
		refuse(t, api.ErrTmplDeep, full+"{{"+name+" .}}", full+"{{"+name+" .}}{{"+name+"}}", full+"{{"+name+" .}}{{?}}")
	}
	refuse(t, api.ErrWordsForm, "{{template ?}}", "{{template t ?}}", "{{template \"t\" . ?}}", "{{foo ?}}", "{{$a := ?}}", "{{$a.b := ?}}", "{{. . ?}}")
	refuse(t, api.ErrTmplAction, "{{template t foo |}}", "{{template | |}}", "{{template cat 1 2 3 4 5 6 7 8 9}}")
	refuse(t, api.ErrTmplAction, "{{break cat 1 2 3 4 5 6 7 8 9}}", "{{end | |}}", "{{else else}}", "{{continue foo}}")
}

func TestErrTmplLoop(t *testing.T) {
	for name, item := range map[string]api.Item{"break": ends, "continue": goes} {
		leave := "{{" + name + "}}"
		refuse(t, api.ErrTmplLoop, leave, "a"+leave+"b", leave+"{{end}}", "{{.}}"+leave, leave+"{{range .}}{{end}}",
			"{{if .}}"+leave+"{{end}}", "{{with .}}"+leave+"{{end}}", "{{if .}}{{else}}"+leave+"{{end}}", "{{with .}}{{else}}"+leave+"{{end}}", "{{if .}}{{with .}}{{else}}"+leave+"{{end}}{{end}}", times(api.MaxBlocks, "{{if .}}")+leave,
			"{{range .}}{{end}}"+leave, "{{range .}}{{else}}{{end}}"+leave, "{{range .}}{{range .}}{{end}}{{end}}"+leave, "{{if .}}{{range .}}{{end}}"+leave+"{{end}}",
			"{{range .}}{{else}}"+leave+"{{end}}", "{{range .}}"+leave+"{{else}}"+leave+"{{end}}", "{{range .}}{{else}}{{if .}}"+leave+"{{end}}{{end}}", "{{range .}}{{else}}{{with .}}{{else}}"+leave+"{{end}}{{end}}", "{{range .}}{{else}}{{range .}}{{else}}"+leave+"{{end}}{{end}}", "{{range .}}{{else}}{{range .}}{{end}}"+leave+"{{end}}", "{{if .}}{{range .}}{{else}}"+leave+"{{end}}{{end}}",
			"{{range .}}{{range .}}{{end}}{{else}}"+leave+"{{end}}", "{{range .}}{{else}}"+times(api.MaxBlocks-1, "{{if .}}")+leave)
		r := func(then, other []api.Item) api.Item { return nest(api.ItemRange, then, other, dot()) }
		one := of(item)
		check(t, "{{range .}}"+leave+"{{end}}", r(one, nil))
		check(t, "{{range .}}a"+leave+"b{{else}}c{{end}}d", r(of(text("a"), item, text("b")), of(text("c"))), text("d"))
		check(t, "{{if .}}{{range .}}"+leave+"{{end}}{{else}}{{range .}}"+leave+"{{end}}{{end}}", nest(api.ItemIf, of(r(one, nil)), of(r(one, nil)), dot()))
		for _, inner := range []string{"if", "with"} {
			check(t, "{{range .}}{{"+inner+" .}}"+leave+"{{else}}"+leave+"{{end}}"+leave+"{{end}}", r(of(nest(begins[inner], one, one, dot()), item), nil))
		}
		check(t, "{{range .}}{{range .}}{{end}}"+leave+"{{end}}", r(of(r(nil, nil), item), nil))
		check(t, "{{range .}}{{range .}}{{else}}{{end}}"+leave+"{{end}}", r(of(r(nil, nil), item), nil))
		// In the Else of a range it is the outer range's.
		check(t, "{{range .}}{{range .}}{{else}}"+leave+"{{end}}{{end}}", r(of(r(nil, one)), nil))
		check(t, "{{range .}}{{range .}}"+leave+"{{else}}"+leave+"{{end}}"+leave+"{{else}}{{end}}", r(of(r(one, one), item), nil))
		check(t, "{{range .}}{{range .}}{{else}}{{range .}}{{else}}"+leave+"{{end}}{{end}}{{end}}", r(of(r(nil, of(r(nil, one)))), nil))
		check(t, "{{range .}}{{else}}{{range .}}"+leave+"{{end}}{{end}}", r(nil, of(r(one, nil))))
		check(t, "{{range .}}{{if .}}{{range .}}{{else}}{{with .}}"+leave+"{{end}}{{end}}{{end}}{{end}}", r(of(nest(api.ItemIf, of(r(nil, of(nest(api.ItemWith, one, nil, dot())))), nil, dot())), nil))
		// In whatever depth of ifs and withs, in their Then and in their Else.
		for n := range api.MaxBlocks {
			for _, begin := range []string{"{{if .}}", "{{with .}}", "{{if .}}{{else}}", "{{with .}}a{{else}}"} {
				source := "{{range .}}" + times(n, begin) + leave + times(n+1, "{{end}}")
				if _, e := Parse(source); e != api.OK {
					t.Errorf("P16.1: Parse(%.300q): %d", source, e)
				}
				refuse(t, api.ErrTmplLoop, "{{range .}}{{else}}"+times(n, begin)+leave+times(n+1, "{{end}}"), times(n, begin)+leave+times(n, "{{end}}"), times(n, begin)+"{{range .}}{{end}}"+leave)
			}
		}
	}
}

func TestErrTmplDeep(t *testing.T) {
	for name, kind := range begins {
		for _, begin := range []string{"{{" + name + " .}}", "{{" + name + " .}}a", "{{" + name + " .}}{{else}}", "{{" + name + " .}}a{{else}}{{.}}"} {
			whole := func(n int) string { return times(n, begin) + times(n, "{{end}}") }
			for n := range api.MaxBlocks + 1 {
				if items, e := Parse(whole(n)); e != api.OK || n > 0 && (len(items) != 1 || items[0].Kind != kind) {
					t.Errorf("P16.1: %d times %s: %s, %d", n, begin, shown(items), e)
				}
			}
			for _, n := range []int{api.MaxBlocks + 1, api.MaxBlocks + 2, 2 * api.MaxBlocks, 200} {
				refuse(t, api.ErrTmplDeep, whole(n), times(n, begin), whole(n)+"{{end}}", times(n, begin)+"{{?}}", times(n, begin)+"{{foo}}", times(n, begin)+"{{else}}{{else}}", whole(n)+"{{else}}", times(n, begin)+"{{break}}")
			}
			if items, e := Parse(times(4, whole(api.MaxBlocks))); e != api.OK || len(items) != 4 {
				t.Errorf("P16.1: side by side: %d items, %d", len(items), e)
			}
			refuse(t, api.ErrTmplDeep, whole(api.MaxBlocks)+whole(api.MaxBlocks+1), times(api.MaxBlocks, begin)+"{{end}}"+begin+begin, times(api.MaxBlocks-1, begin)+whole(1)+whole(2))
			refuse(t, api.ErrTmplEnd, times(api.MaxBlocks, begin), times(api.MaxBlocks-1, begin)+whole(1)+whole(1), "{{end}}"+whole(api.MaxBlocks+1))
			refuse(t, api.ErrPipeForm, times(api.MaxBlocks, begin)+"{{foo}}"+begin, "{{foo}}"+whole(api.MaxBlocks+1))
			refuse(t, api.ErrTmplElse, "{{else}}"+whole(api.MaxBlocks+1))
		}
	}
	// Of all three Kinds together, in Then and in Else; what is no block counts not.
	mixed := times(6, "{{if .}}{{else}}{{with .}}{{range .}}")
	refuse(t, api.ErrTmplDeep, mixed, times(5, "{{if .}}{{with .}}{{range .}}")+"{{if .}}{{else}}{{with .}}")
	refuse(t, api.ErrTmplEnd, times(5, "{{if .}}{{with .}}{{range .}}")+"{{if .}}{{else}}")
	var side []api.Item
	for range 500 {
		side = append(side, nest(api.ItemIf, nil, nil, dot()))
	}
	check(t, times(500, "{{if .}}{{end}}"), side...)
	inner := times(400, "{{template \"t\"}}") + times(300, "{{$a := 1}}")
	if _, e := Parse(times(api.MaxBlocks, "{{with .}}") + inner + times(api.MaxBlocks, "{{end}}")); e != api.OK {
		t.Errorf("P16.1: %d", e)
	}
}

// turnAll puts something else into each part of items, and behind each list up to its spare room's end.
func turnAll(items []api.Item) {
	for i := range items {
		turnAll(items[i].Then)
		turnAll(items[i].Else)
		for n := range items[i].Pipe {
			args := items[i].Pipe[n].Args
			for k := range args {
				fill(args[k].Path, "!")
			}
			fill(args, quoted("!"))
		}
		fill(items[i].Pipe, cmd("!"))
	}
	fill(items, text("!"))
}

// fill puts x into each place of a list, its spare room too.
func fill[T any](list []T, x T) {
	list = list[:cap(list)]
	for i := range list {
		list[i] = x
	}
}

// turnEach turns each list of items, takes it away, and tells then what it was.
func turnEach(items []api.Item, turned func(what string)) {
	for i := range items {
		for n := range items[i].Pipe {
			args := items[i].Pipe[n].Args
			for k := range args {
				fill(args[k].Path, "!")
				args[k].Path = nil
				turned("a Path")
			}
			fill(args, quoted("!"))
			items[i].Pipe[n].Args = nil
			turned("Args")
		}
		fill(items[i].Pipe, cmd("!"))
		items[i].Pipe = nil
		turned("a Pipe")
		turnEach(items[i].Then, turned)
		fill(items[i].Then, text("!"))
		items[i].Then = nil
		turned("a Then")
		turnEach(items[i].Else, turned)
		fill(items[i].Else, text("!"))
		items[i].Else = nil
		turned("an Else")
	}
}

// marks tells how often what fill puts stands in items.
func marks(items []api.Item) int { return strings.Count(fmt.Sprintf("%+v", items), "!") }

const busy = `a{{$v := cat .a.b "c" $d.e}}{{range .x.y}}{{if eq .z 1}}f{{break}}{{else}}g{{continue}}{{.a.b}}{{end}}{{template "t" .i.j | len}}{{with $k}}l{{else}}m{{end}}{{else}}{{"n"}}o{{end}}{{template "p"}}q{{if .}}r{{end}}{{if .}}s{{end}}`

// texts gives each text of items that is not empty.
func texts(items []api.Item) []string {
	var out []string
	for _, i := range items {
		out = append(out, i.Text)
		for _, c := range i.Pipe {
			out = append(out, c.Fn)
			for _, a := range c.Args {
				out = append(append(out, a.Name, a.Text), a.Path...)
			}
		}
		out = append(append(out, texts(i.Then)...), texts(i.Else)...)
	}
	return slices.DeleteFunc(out, func(s string) bool { return s == "" })
}

// TestWhatIsAnsweredStandsAlone: R4, of what is handed in, of two answers, and within one.
func TestWhatIsAnsweredStandsAlone(t *testing.T) {
	room := []byte(busy + "spare")
	handed := unsafe.String(&room[0], len(busy))
	first, e := Parse(handed)
	second, _ := Parse(handed)
	third, _ := Parse(handed)
	if e != api.OK || string(room) != busy+"spare" {
		t.Fatalf("R4: what is handed in is turned: %d", e)
	}
	for i := range room {
		room[i] = '!'
	}
	want, _ := Parse(busy)
	if !same(first, want) || !same(second, want) {
		t.Errorf("R4: behind what was handed in: %s, %s", shown(first), shown(second))
	}
	one, two := texts(first), texts(second)
	for i := range one {
		if unsafe.StringData(one[i]) == unsafe.StringData(two[i]) {
			t.Errorf("R4: the text %q of two answers", one[i])
		}
	}
	turnAll(second)
	again, e := Parse(busy)
	if !same(first, want) || e != api.OK || !same(again, want) {
		t.Errorf("R4: behind what became of another answer: %s", shown(first))
	}
	isAlone := func(what string) {
		if n := marks(third); n != 0 {
			t.Errorf("R4: %s stands in another list too, %d times", what, n)
		}
	}
	fill(third[len(third):], text("!"))
	isAlone("the items' spare room")
	turnEach(third, isAlone)
	Parse("{{if .}}{{else}}b{{end}}c")
	Parse("{{if .}}" + busy)
	if !same(first, want) {
		t.Errorf("R4: behind later calls: %s", shown(first))
	}
}

// TestCallsAtOneTime: R5, whatever was asked ahead, errors among it.
func TestCallsAtOneTime(t *testing.T) {
	sources := []string{"", "a", busy, "{{", "{{?}}", "{{foo}}", "{{else}}", "{{end}}", "{{if .}}", busy + "{{if .}}{{else}}", "{{break}}", times(17, "{{if .}}"), times(16, "{{if .}}{{else}}") + times(16, "{{end}}"), times(500, "a{{.}}"), times(2000, "{{.}}")}
	type answer struct {
		items []api.Item
		err   api.Errno
	}
	var wants []answer
	for _, s := range sources {
		items, e := Parse(s)
		wants = append(wants, answer{items, e})
	}
	var all sync.WaitGroup
	for worker := range 8 {
		all.Go(func() {
			for i := range 300 {
				n := (i*7 + worker*4) % len(sources)
				if got, e := Parse(sources[n]); e != wants[n].err || !same(got, wants[n].items) {
					t.Errorf("R5: %.40q: %s, %d", sources[n], shown(got), e)
				}
			}
		})
	}
	all.Wait()
}

// TestEnds: R1, of great sources, each of one part again and again.
func TestEnds(t *testing.T) {
	begin := time.Now()
	for _, part := range []string{
		"a", "{", "}", "{{", "}}", "{{}}", "{{.}}", "{{.}}a", "{{if .}}", "{{if .}}{{else}}", "{{range .}}", "{{with .}}a", "{{else}}", "{{end}}", "{{if .}}{{end}}", "{{if .}}a{{else}}b{{end}}", "{{range .}}{{break}}{{end}}", "{{break}}", "{{template \"t\"}}", "{{$a := .}}", "{{/**/}}", "\"", "{{\"", "\\", "{{?}}", "{{foo}}", "\x00", "\xff", "{{- -}}", "{{ - }}", "\r",
	} {
		for _, head := range []string{"", "a", "{{if .}}", "{{range .}}{{else}}", "{{", "{{\"", times(api.MaxBlocks, "{{range .}}")} {
			for _, n := range []int{100, api.MaxPieces/2 - api.MaxBlocks, api.MaxPieces - api.MaxBlocks, api.MaxText/len(part) - len(head), api.MaxText / len(part), 10 * api.MaxText} {
				source := head + times(n, part)
				items, e := Parse(source)
				if e != api.OK && len(items) != 0 {
					t.Errorf("R2: %.60q: %d items, %d", source, len(items), e)
				}
			}
		}
	}
	if spent := time.Since(begin); spent > 20*time.Second {
		t.Errorf("R1: %v", spent)
	}
}

func BenchmarkParse(b *testing.B) {
	source := times(200, "a{{if .a}}{{$v := cat .b \"c\" | len}}{{else}}b{{end}}")
	for b.Loop() {
		Parse(source)
	}
}
