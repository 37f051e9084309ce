package pipe

import (
	"fmt"
	"slices"
	"strings"
	"sync"
	"testing"
	"time"
	"unsafe"

	"stole/api"
	"stole/words"
)

var functions = []string{"len", "index", "eq", "lt", "not", "and", "or", "cat"}

func name(s string) api.Word { return api.Word{Kind: api.WordName, Text: s} }

func text(s string) api.Word { return api.Word{Kind: api.WordText, Text: s} }

func number(n int) api.Word { return api.Word{Kind: api.WordInt, Int: n} }

func field(path ...string) api.Word { return api.Word{Kind: api.WordField, Path: path} }

func variable(s string, path ...string) api.Word {
	return api.Word{Kind: api.WordVar, Text: s, Path: path}
}

func bar() api.Word { return api.Word{Kind: api.WordPipe} }

func assign() api.Word { return api.Word{Kind: api.WordSet} }

// row gives the words of parts, one behind the other.
func row(parts ...[]api.Word) []api.Word { return slices.Concat(parts...) }

func of(ws ...api.Word) []api.Word { return ws }

func times(n int, ws ...api.Word) []api.Word { return slices.Repeat(ws, n) }

// commandsOf gives a row of n commands, each of the same words.
func commandsOf(n int, ws ...api.Word) []api.Word {
	return row(ws, times(n-1, append(of(bar()), ws...)...))
}

func cmd(fn string, args ...api.Arg) api.Cmd { return api.Cmd{Fn: fn, Args: args} }

func shown(p any) string { return fmt.Sprintf("%.300s", fmt.Sprintf("%+v", p)) }

func sameArg(a, b api.Arg) bool {
	return a.Kind == b.Kind && a.Name == b.Name && a.Int == b.Int && a.Text == b.Text && slices.Equal(a.Path, b.Path)
}

func same(p, q []api.Cmd) bool {
	return slices.EqualFunc(p, q, func(a, b api.Cmd) bool {
		return a.Fn == b.Fn && slices.EqualFunc(a.Args, b.Args, sameArg)
	})
}

// check holds Parse of words against the commands that are wanted, and May of them.
func check(t *testing.T, ws []api.Word, want ...api.Cmd) {
	t.Helper()
	got, e := Parse(ws)
	if e != api.OK || !same(got, want) {
		t.Errorf("P15.1: Parse(%s) = %s, %d, want %s", shown(ws), shown(got), e, shown(want))
	}
	if !May(got) || !May(want) {
		t.Errorf("P15.1: what Parse(%s) tells may not be", shown(ws))
	}
}

// refuse holds Parse of rows of words against an error, with nothing beside it (R2).
func refuse(t *testing.T, want api.Errno, rows ...[]api.Word) {
	t.Helper()
	for _, ws := range rows {
		if got, e := Parse(ws); len(got) != 0 || e != want {
			t.Errorf("P15.1, R2: Parse(%s) = %s, %d, want %d", shown(ws), shown(got), e, want)
		}
	}
}

func path(n int) []string { return slices.Repeat([]string{strings.Repeat("P", api.MaxName)}, n) }

// sample is a word that is an argument.
type sample struct {
	word api.Word
	arg  api.Arg
}

// samples are of each Kind, at its bounds, too.
func samples() []sample {
	out := []sample{
		{name("true"), api.Arg{Kind: api.ArgBool, Int: 1}},
		{name("false"), api.Arg{Kind: api.ArgBool}},
		{name("null"), api.Arg{Kind: api.ArgNull}},
	}
	for _, n := range []int{0, 1, -1, 255, 1 << 32, -1 << 32, api.MaxInt - 1, api.MaxInt, 1 - api.MaxInt, -api.MaxInt} {
		out = append(out, sample{number(n), api.Arg{Kind: api.ArgInt, Int: n}})
	}
	for _, s := range []string{"", "a", "true", "len", "|", ":=", "\x00\xff\n\"\\", "é\u2028", strings.Repeat("t", api.MaxText-1), strings.Repeat("\xff", api.MaxText)} {
		out = append(out, sample{text(s), api.Arg{Kind: api.ArgText, Text: s}})
	}
	for _, p := range [][]string{nil, {}, {"a"}, {"_"}, {"Z9_", "len", "true"}, path(1), path(api.MaxPath - 1), path(api.MaxPath), {"a", "b", "c", "d", "e", "f", "g", "h"}} {
		out = append(out, sample{field(p...), api.Arg{Kind: api.ArgDot, Path: p}})
		for _, s := range []string{"a", "_", "v_9", "len", "null", "if", strings.Repeat("v", api.MaxName)} {
			out = append(out, sample{variable(s, p...), api.Arg{Kind: api.ArgVar, Name: s, Path: p}})
		}
	}
	return out
}

// notNames are texts that are no name.
func notNames() []string {
	return []string{"", "1", "9a", "-", "-a", "a-b", ".", "a.", ".a", "a.b", "$", "$a", "a b", " a", "a ", "a|", "é", "aé", "\x00", "a\x00", "a\xff", "\n", "a\n", `"`, strings.Repeat("n", api.MaxName+1), strings.Repeat("_", 1000)}
}

// faults are words that stand in no commands.
func faults() []api.Word {
	out := []api.Word{
		assign(), {Kind: api.WordSet, Text: ":="}, {Kind: api.WordSet, Int: 1}, {Kind: api.WordSet, Path: []string{"a"}},
		{Kind: api.WordPipe, Text: "|"}, {Kind: api.WordPipe, Text: "len"}, {Kind: api.WordPipe, Int: 1}, {Kind: api.WordPipe, Path: []string{"a"}}, {Kind: api.WordPipe, Path: []string{""}},
		{Kind: api.WordField, Text: "a"}, {Kind: api.WordField, Int: 1}, {Kind: api.WordField, Int: -1}, {Kind: api.WordField, Text: "a", Path: []string{"a"}},
		{Kind: api.WordVar, Text: "a", Int: 1}, {Kind: api.WordVar, Text: "a", Int: -1}, {Kind: api.WordVar, Path: []string{"a"}},
		{Kind: api.WordInt, Text: "1"}, {Kind: api.WordInt, Int: 1, Text: "1"}, {Kind: api.WordInt, Path: []string{"a"}}, {Kind: api.WordInt, Int: 1, Path: []string{"a"}},
		{Kind: api.WordText, Int: 1}, {Kind: api.WordText, Text: "a", Int: -1}, {Kind: api.WordText, Path: []string{"a"}}, {Kind: api.WordText, Text: "a", Path: []string{""}},
		text(strings.Repeat("t", api.MaxText+1)), text(strings.Repeat("t", 2*api.MaxText)),
		field(path(api.MaxPath + 1)...), variable("v", path(api.MaxPath+1)...), field(path(1000)...), field(make([]string, api.MaxPath)...),
		name("foo"), name("if"), name("template"), name("else"), name("_"), name(strings.Repeat("n", api.MaxName)),
		name("Len"), name("LEN"), name("leN"), name("Index"), name("EQ"), name("Lt"), name("nOt"), name("And"), name("Or"), name("CAT"), name("True"), name("FALSE"), name("Null"),
		name("le"), name("lens"), name("len "), name(" len"), name("len\x00"), name("length"), name("gt"), name("ne"), name("nil"), name("tru"), name("nulls"), name("true "),
	}
	for _, kind := range []int{7, 8, -1, -2, 100, api.WordSet + 1, 1 << 62, -1 << 63} {
		out = append(out, api.Word{Kind: kind}, api.Word{Kind: kind, Text: "len"}, api.Word{Kind: kind, Text: "a", Path: []string{"b"}}, api.Word{Kind: kind, Int: 1})
	}
	for _, n := range []int{api.MaxInt + 1, -api.MaxInt - 1, 1<<63 - 1, -1 << 63, 1 << 60} {
		out = append(out, number(n))
	}
	for _, s := range append([]string{"len", "cat", "true", "false", "null"}, functions...) {
		out = append(out, api.Word{Kind: api.WordName, Text: s, Int: 1}, api.Word{Kind: api.WordName, Text: s, Int: -1}, api.Word{Kind: api.WordName, Text: s, Path: []string{"a"}})
	}
	for _, s := range notNames() {
		out = append(out, name(s), variable(s), variable(s, "a"), field(s), field("a", s), field(s, "a"), field("a", "b", s, "c"), variable("a", s), variable("a", "b", s), field(append(path(api.MaxPath-1), s)...))
	}
	return out
}

func TestPipesAlone(t *testing.T) {
	refuse(t, api.ErrPipeForm, nil, of(), of(bar()), times(2, bar()), times(3, bar()), times(1000, bar()))
	for _, ws := range [][]api.Word{of(field()), of(name("len")), of(name("true")), of(name("cat"), number(1), text("a"))} {
		refuse(t, api.ErrPipeForm,
			row(of(bar()), ws), row(ws, of(bar())), row(of(bar()), ws, of(bar())),
			row(ws, times(2, bar())), row(times(2, bar()), ws),
			row(ws, times(2, bar()), of(name("len"))), row(ws, times(3, bar()), of(name("len"))),
			row(ws, of(bar(), name("len"), bar())), row(ws, of(bar(), bar(), name("len"), bar(), name("len"))), row(ws, of(bar(), name("len"), bar(), bar(), name("len"))))
	}
}

func TestFunctions(t *testing.T) {
	for _, f := range functions {
		check(t, of(name(f)), cmd(f))
		check(t, of(name(f), bar(), name(f)), cmd(f), cmd(f))
		check(t, of(field(), bar(), name(f)), cmd("", api.Arg{}), cmd(f))
		// A function is no argument, and no command has two.
		refuse(t, api.ErrPipeForm, of(name(f), name(f)), of(field(), name(f)), of(number(1), bar(), name(f), name(f)), of(name(f), field(), name(f)))
		for _, g := range functions {
			check(t, of(name(f), number(1), bar(), name(g), number(2), number(3)), cmd(f, api.Arg{Kind: api.ArgInt, Int: 1}), cmd(g, api.Arg{Kind: api.ArgInt, Int: 2}, api.Arg{Kind: api.ArgInt, Int: 3}))
			refuse(t, api.ErrPipeForm, of(name(f), name(g)))
		}
		for _, s := range []string{strings.ToUpper(f), strings.ToUpper(f[:1]) + f[1:], f[1:], f[:len(f)-1], f + f, f + "_", "_" + f, f + "\x00"} {
			refuse(t, api.ErrPipeForm, of(name(s)), of(name(s), field()), of(field(), bar(), name(s)), of(name(f), bar(), name(s)), of(name(f), name(s)))
		}
	}
}

// TestNamesThatAreNoFunction: at the begin of the first command and of later ones.
func TestNamesThatAreNoFunction(t *testing.T) {
	for _, s := range []string{"true", "false", "null"} {
		refuse(t, api.ErrPipeForm, of(name(s), field()), of(name(s), name(s)), of(name(s), name("len")), of(field(), bar(), name(s)), of(name("len"), bar(), name(s)), of(name("len"), bar(), name(s), field()), of(name(s), bar(), name(s)))
	}
	for _, s := range []string{"if", "with", "range", "end", "else", "template", "break", "continue", "foo", "_", "a1", "gt", "print", "nil", "yes", "dot"} {
		refuse(t, api.ErrPipeForm, of(name(s)), of(name(s), field()), of(name(s), bar(), name("len")), of(field(), bar(), name(s)), of(field(), bar(), name(s), field()), of(name("len"), name(s)))
	}
}

// TestArgumentsAlone: the first command is one argument, a later one is none.
func TestArgumentsAlone(t *testing.T) {
	for _, s := range samples() {
		check(t, of(s.word), cmd("", s.arg))
		check(t, of(s.word, bar(), name("len")), cmd("", s.arg), cmd("len"))
		check(t, of(s.word, bar(), name("eq"), s.word, bar(), name("not")), cmd("", s.arg), cmd("eq", s.arg), cmd("not"))
		refuse(t, api.ErrPipeForm,
			of(s.word, s.word), times(3, s.word), times(api.MaxArgs+1, s.word), of(s.word, s.word, bar(), name("len")),
			of(s.word, bar(), s.word), of(name("len"), bar(), s.word), of(name("len"), bar(), s.word, bar(), name("len")), of(name("len"), bar(), s.word, s.word), of(s.word, name("len")))
	}
}

func TestArguments(t *testing.T) {
	all := samples()
	for i, s := range all {
		next := all[(i+1)%len(all)]
		check(t, of(name("len"), s.word), cmd("len", s.arg))
		check(t, of(name("lt"), s.word, next.word), cmd("lt", s.arg, next.arg))
		check(t, of(field(), bar(), name("index"), s.word, bar(), name("cat"), next.word, s.word, next.word), cmd("", api.Arg{}), cmd("index", s.arg), cmd("cat", next.arg, s.arg, next.arg))
		check(t, row(of(name("or")), times(api.MaxArgs, s.word)), cmd("or", slices.Repeat([]api.Arg{s.arg}, api.MaxArgs)...))
		check(t, row(of(name("or")), times(api.MaxArgs-1, next.word), of(s.word)), cmd("or", append(slices.Repeat([]api.Arg{next.arg}, api.MaxArgs-1), s.arg)...))
	}
}

func TestHowManyCommands(t *testing.T) {
	for n := 1; n <= api.MaxCmds; n++ {
		for _, f := range functions {
			check(t, commandsOf(n, name(f)), slices.Repeat([]api.Cmd{cmd(f)}, n)...)
			check(t, commandsOf(n, name(f), field("a"), number(n)), slices.Repeat([]api.Cmd{cmd(f, api.Arg{Path: []string{"a"}}, api.Arg{Kind: api.ArgInt, Int: n})}, n)...)
		}
		check(t, row(of(text("a")), times(n-1, bar(), name("cat"))), append([]api.Cmd{cmd("", api.Arg{Kind: api.ArgText, Text: "a"})}, slices.Repeat([]api.Cmd{cmd("cat")}, n-1)...)...)
		full := row(of(name("and")), times(api.MaxArgs, field()))
		check(t, commandsOf(n, full...), slices.Repeat([]api.Cmd{cmd("and", make([]api.Arg, api.MaxArgs)...)}, n)...)
	}
	for _, n := range []int{api.MaxCmds + 1, api.MaxCmds + 2, 2 * api.MaxCmds, 1000} {
		refuse(t, api.ErrPipeMany, commandsOf(n, name("len")), commandsOf(n, name("cat"), field("a"), text("b")), row(of(field()), times(n-1, bar(), name("not"))))
	}
}

func TestHowManyArguments(t *testing.T) {
	for _, f := range functions {
		for n := range api.MaxArgs + 1 {
			want := cmd(f, slices.Repeat([]api.Arg{{Kind: api.ArgNull}}, n)...)
			ws := row(of(name(f)), times(n, name("null")))
			check(t, ws, want)
			check(t, row(of(field(), bar()), ws, of(bar()), ws), cmd("", api.Arg{}), want, want)
		}
		for _, n := range []int{api.MaxArgs + 1, api.MaxArgs + 2, 2 * api.MaxArgs, 1000} {
			ws := row(of(name(f)), times(n, name("null")))
			refuse(t, api.ErrPipeMany, ws, row(ws, of(bar(), name("len"))), row(of(field(), bar()), ws), row(of(name("cat"), field(), bar()), ws, of(bar(), name("not"))), commandsOf(api.MaxCmds, ws...), commandsOf(api.MaxCmds+1, ws...))
		}
	}
}

// TestWordsThatAreNone: at each place where a word may stand, beside what is too many, too: that is told only if nothing else is wrong.
func TestWordsThatAreNone(t *testing.T) {
	many := row(of(name("cat")), times(api.MaxArgs+1, field()))
	long := commandsOf(api.MaxCmds+1, name("len"))
	refuse(t, api.ErrPipeMany, many, long)
	for _, w := range faults() {
		refuse(t, api.ErrPipeForm,
			of(w), of(w, w), of(w, field()), of(w, bar(), name("len")),
			of(name("len"), w), of(name("cat"), field(), w), of(name("cat"), w, field()), of(name("len"), bar(), w), of(name("len"), w, name("len")),
			of(name("len"), bar(), name("cat"), w), of(field(), bar(), w, bar(), name("not")), of(field(), w), of(field(), w, name("len")), of(field(), bar(), name("len"), w, name("len")),
			row(of(name("cat")), times(api.MaxArgs-1, field()), of(w)),
			row(many, of(w)), row(of(w), many), row(many, of(bar(), w)), row(of(w, bar()), many), row(of(name("len"), w, bar()), many), row(many, of(bar(), name("len"), w)), row(of(name("cat"), w), times(api.MaxArgs, field())),
			row(long, of(w)), row(of(w), long), row(long, of(bar(), w)), row(of(w, bar()), long), row(long, of(bar()), many, of(w)))
	}
}

// TestManyBesideAnotherFault: of commands that are none, ahead of it and behind.
func TestManyBesideAnotherFault(t *testing.T) {
	for _, many := range [][]api.Word{
		row(of(name("cat")), times(api.MaxArgs+1, field())),
		commandsOf(api.MaxCmds+1, name("len")),
		commandsOf(api.MaxCmds+1, row(of(name("cat")), times(api.MaxArgs+1, field()))...),
		commandsOf(100, name("len"), number(1)),
	} {
		refuse(t, api.ErrPipeMany, many, row(of(field(), bar()), many), row(many, of(bar(), name("len"))), row(many, of(bar()), many))
		refuse(t, api.ErrPipeForm,
			row(of(bar()), many), row(many, of(bar())), row(many, times(2, bar()), of(name("len"))), row(of(name("len"), bar(), bar()), many),
			row(many, of(bar(), field())), row(many, of(bar(), field(), bar(), name("len"))), row(of(field(), field(), bar()), many), row(of(name("len"), bar(), name("true"), bar()), many), row(many, of(name("len"))), row(of(name("len")), many), row(of(name("foo"), bar()), many))
	}
	// More arguments than may be, but no function.
	refuse(t, api.ErrPipeForm, times(api.MaxArgs+1, field()), times(1000, number(1)), row(times(api.MaxArgs+1, field()), of(bar(), name("len"))), commandsOf(api.MaxCmds+1, field()), commandsOf(100, name("true")))
}

// TestActions: words as layer 14 tells them.
func TestActions(t *testing.T) {
	for _, c := range []struct {
		action string
		want   []api.Cmd
	}{
		{".", []api.Cmd{cmd("", api.Arg{})}},
		{".title", []api.Cmd{cmd("", api.Arg{Path: []string{"title"}})}},
		{"$row.name|len", []api.Cmd{cmd("", api.Arg{Kind: api.ArgVar, Name: "row", Path: []string{"name"}}), cmd("len")}},
		{`"\"\n"`, []api.Cmd{cmd("", api.Arg{Kind: api.ArgText, Text: "\"\n"})}},
		{"-9007199254740991", []api.Cmd{cmd("", api.Arg{Kind: api.ArgInt, Int: -api.MaxInt})}},
		{"not true", []api.Cmd{cmd("not", api.Arg{Kind: api.ArgBool, Int: 1})}},
		{"false | or null \"\" | eq 0", []api.Cmd{cmd("", api.Arg{Kind: api.ArgBool}), cmd("or", api.Arg{Kind: api.ArgNull}, api.Arg{Kind: api.ArgText}), cmd("eq", api.Arg{Kind: api.ArgInt})}},
		{"index .items 0 | index \"key\"", []api.Cmd{cmd("index", api.Arg{Path: []string{"items"}}, api.Arg{Kind: api.ArgInt}), cmd("index", api.Arg{Kind: api.ArgText, Text: "key"})}},
	} {
		ws, e := words.Words(c.action)
		if e != api.OK {
			t.Fatalf("%q: %d", c.action, e)
		}
		check(t, ws, c.want...)
	}
	for _, action := range []string{"", "|", "if .", "$a := 1", "len := 1", ". .", ".|.", "len len", "true true", "Len .", "len|", "| len", "len || len", ". len", "1 | 2", "cat foo"} {
		ws, e := words.Words(action)
		if e != api.OK {
			t.Fatalf("%q: %d", action, e)
		}
		refuse(t, api.ErrPipeForm, ws)
	}
}

// standsAlone tells what May says of an argument, at each place where one stands.
func standsAlone(t *testing.T, arg api.Arg, want bool) {
	t.Helper()
	fine := api.Arg{Kind: api.ArgNull}
	last := append(slices.Repeat([]api.Arg{fine}, api.MaxArgs-1), arg)
	for i, p := range [][]api.Cmd{
		{cmd("", arg)}, {cmd("", arg), cmd("len")}, {cmd("len", arg)}, {cmd("cat", fine, arg)}, {cmd("cat", arg, fine)}, {cmd("or", last...)},
		{cmd("", fine), cmd("len", arg)}, {cmd("len"), cmd("cat", fine, arg), cmd("not")}, append(slices.Repeat([]api.Cmd{cmd("and")}, api.MaxCmds-1), cmd("cat", arg)),
	} {
		if May(p) != want {
			t.Errorf("P15.1: place %d: May(%s) = %v", i, shown(p), !want)
		}
	}
}

func TestMayOfArguments(t *testing.T) {
	for _, s := range samples() {
		standsAlone(t, s.arg, true)
		for _, a := range turned(s.arg) {
			standsAlone(t, a, false)
		}
	}
	for _, n := range []int{0, 1} {
		standsAlone(t, api.Arg{Kind: api.ArgBool, Int: n}, true)
	}
	for _, n := range []int{2, 3, -1, 256, 1 << 32, 1<<63 - 1, -1 << 63} {
		standsAlone(t, api.Arg{Kind: api.ArgBool, Int: n}, false)
		standsAlone(t, api.Arg{Kind: api.ArgNull, Int: n}, false)
	}
	for _, n := range []int{api.MaxInt + 1, -api.MaxInt - 1, 1<<63 - 1, -1 << 63} {
		standsAlone(t, api.Arg{Kind: api.ArgInt, Int: n}, false)
	}
	for _, kind := range []int{6, 7, -1, 100, 1 << 62, -1 << 63} {
		standsAlone(t, api.Arg{Kind: kind}, false)
		standsAlone(t, api.Arg{Kind: kind, Name: "a"}, false)
	}
	for _, s := range notNames() {
		standsAlone(t, api.Arg{Kind: api.ArgVar, Name: s}, false)
		standsAlone(t, api.Arg{Kind: api.ArgVar, Name: s, Path: []string{"a"}}, false)
		for _, p := range [][]string{{s}, {"a", s}, {s, "a"}, append(path(api.MaxPath-1), s)} {
			standsAlone(t, api.Arg{Path: p}, false)
			standsAlone(t, api.Arg{Kind: api.ArgVar, Name: "a", Path: p}, false)
		}
	}
	for _, n := range []int{api.MaxText + 1, 2 * api.MaxText} {
		standsAlone(t, api.Arg{Kind: api.ArgText, Text: strings.Repeat("t", n)}, false)
	}
	for _, n := range []int{api.MaxPath + 1, api.MaxPath + 2, 1000} {
		standsAlone(t, api.Arg{Path: path(n)}, false)
		standsAlone(t, api.Arg{Kind: api.ArgVar, Name: "a", Path: path(n)}, false)
		standsAlone(t, api.Arg{Path: make([]string, n)}, false)
	}
}

// turned gives an argument with each part that its Kind has not, one by one.
func turned(arg api.Arg) []api.Arg {
	var out []api.Arg
	with := func(has bool, turn func(a *api.Arg)) {
		if !has {
			a := arg
			turn(&a)
			out = append(out, a)
		}
	}
	isVar, isNumber := arg.Kind == api.ArgVar, arg.Kind == api.ArgInt || arg.Kind == api.ArgBool
	with(isVar, func(a *api.Arg) { a.Name = "a" })
	with(isVar, func(a *api.Arg) { a.Name = "\x00" })
	with(isVar || arg.Kind == api.ArgDot, func(a *api.Arg) { a.Path = []string{"a"} })
	with(isVar || arg.Kind == api.ArgDot, func(a *api.Arg) { a.Path = []string{""} })
	with(isNumber, func(a *api.Arg) { a.Int = 1 })
	with(isNumber, func(a *api.Arg) { a.Int = -1 })
	with(arg.Kind == api.ArgText, func(a *api.Arg) { a.Text = "a" })
	with(arg.Kind == api.ArgText, func(a *api.Arg) { a.Text = "\x00" })
	return out
}

func TestMayOfCommands(t *testing.T) {
	null := api.Arg{Kind: api.ArgNull}
	for i, p := range [][]api.Cmd{
		nil, {}, {{}}, {cmd("", null, null)}, {{}, cmd("len")}, {cmd("", null, null), cmd("len")},
		{cmd("", null), cmd("", null)}, {cmd("len"), cmd("", null)}, {cmd("len"), {}}, {cmd("len"), {}, cmd("len")}, {cmd("len"), cmd("", null), cmd("len")},
		make([]api.Cmd, 2), make([]api.Cmd, api.MaxCmds), make([]api.Cmd, 1000),
		slices.Repeat([]api.Cmd{cmd("len")}, api.MaxCmds+1), slices.Repeat([]api.Cmd{cmd("len")}, 1000),
		{cmd("cat", make([]api.Arg, api.MaxArgs+1)...)}, {cmd("", null), cmd("cat", make([]api.Arg, api.MaxArgs+1)...)}, {cmd("cat", make([]api.Arg, 1000)...)}, {cmd("", make([]api.Arg, api.MaxArgs+1)...)},
	} {
		if May(p) {
			t.Errorf("P15.1: row %d may be", i)
		}
	}
	for _, f := range functions {
		for _, p := range [][]api.Cmd{{cmd(f)}, {{Fn: f, Args: []api.Arg{}}}, {cmd("", null), cmd(f)}, {cmd(f, null, null)}, slices.Repeat([]api.Cmd{cmd(f, make([]api.Arg, api.MaxArgs)...)}, api.MaxCmds)} {
			if !May(p) {
				t.Errorf("P15.1: %s may not be", shown(p))
			}
		}
	}
	for _, s := range append(notNames(), "Len", "LEN", "foo", "true", "false", "null", "if", "le", "lens", "len ", "|", ":=", "eQ") {
		for _, p := range [][]api.Cmd{{cmd(s)}, {cmd(s, null, null)}, {cmd("len"), cmd(s)}, {cmd("len"), cmd(s, null)}, {cmd(s, null, null), cmd("len")}} {
			if May(p) {
				t.Errorf("P15.1: %s may be", shown(p))
			}
		}
		if s != "" && May([]api.Cmd{cmd(s, null)}) {
			t.Errorf("P15.1: %q of one argument may be", s)
		}
	}
}

// roomy gives a copy of a list of texts with spare room behind it.
func roomy(path []string) []string {
	return append(make([]string, 0, len(path)+3), path...)
}

// TestWhatIsHandedInStays: R4, the spare room too, of Parse and of May.
func TestWhatIsHandedInStays(t *testing.T) {
	ws := append(make([]api.Word, 0, 20), name("cat"), field(roomy([]string{"a", "b"})...), variable("v", roomy([]string{"c"})...), text("t"), bar(), name("len"))
	whole := ws[:cap(ws)]
	want := slices.Clone(whole)
	for range 2 {
		if _, e := Parse(ws); e != api.OK {
			t.Fatal(e)
		}
		Parse(append(slices.Clone(ws), bar()))
	}
	for i, w := range whole {
		if w.Kind != want[i].Kind || w.Text != want[i].Text || w.Int != 0 || len(w.Path) != len(want[i].Path) {
			t.Errorf("R4: word %d is turned: %+v", i, w)
		}
	}
	if !slices.Equal(ws[1].Path[:5], []string{"a", "b", "", "", ""}) || !slices.Equal(ws[2].Path[:4], []string{"c", "", "", ""}) {
		t.Error("R4: a Path is turned")
	}
	p := []api.Cmd{{Args: append(make([]api.Arg, 0, 4), api.Arg{Kind: api.ArgVar, Name: "v", Path: roomy([]string{"c", "d"})})}, cmd("len")}
	if !May(p) || !same(p, []api.Cmd{cmd("", api.Arg{Kind: api.ArgVar, Name: "v", Path: []string{"c", "d"}}), cmd("len")}) || !sameArg(p[0].Args[:2][1], api.Arg{}) || !slices.Equal(p[0].Args[0].Path[:5], []string{"c", "d", "", "", ""}) {
		t.Error("R4: what May is asked for is turned")
	}
}

// TestWhatIsAnsweredStandsAlone: R4, of lists and texts, of what is handed in, of two answers, and within one.
func TestWhatIsAnsweredStandsAlone(t *testing.T) {
	room := []byte("cat v text true eq a bc")
	parts := strings.Fields(unsafe.String(&room[0], len(room)))
	fn, v, s, yes, later, shared := parts[0], parts[1], parts[2], parts[3], parts[4], parts[5:]
	ws := of(name(fn), field(shared...), field(shared...), variable(v, shared...), text(s), text(s), name(yes), bar(), name(later), field(shared...))
	dot, variable := api.Arg{Path: []string{"a", "bc"}}, api.Arg{Kind: api.ArgVar, Name: "v", Path: []string{"a", "bc"}}
	said, is := api.Arg{Kind: api.ArgText, Text: "text"}, api.Arg{Kind: api.ArgBool, Int: 1}
	want := []api.Cmd{cmd("cat", dot, dot, variable, said, said, is), cmd("eq", dot)}
	first, _ := Parse(ws)
	second, _ := Parse(ws)
	for i := range room {
		room[i] = '!'
	}
	shared[0], shared[1] = "!", "!"
	for i := range ws {
		ws[i] = assign()
	}
	if !same(first, want) || !same(second, want) {
		t.Fatalf("R4: behind the words that were handed in: %s, %s", shown(first), shown(second))
	}
	for i := range second {
		for n := range second[i].Args {
			a, b := first[i].Args[n], second[i].Args[n]
			if a.Text != "" && unsafe.StringData(a.Text) == unsafe.StringData(b.Text) || a.Name != "" && unsafe.StringData(a.Name) == unsafe.StringData(b.Name) {
				t.Errorf("R4: a text of two answers: %d, %d", i, n)
			}
			b.Path = append(b.Path, slices.Repeat([]string{"!"}, cap(b.Path)-len(b.Path))...)
			for k := range b.Path {
				b.Path[k] = "!"
			}
			second[i].Args[n] = api.Arg{Kind: api.ArgNull}
			if !same(second[i+1:], want[i+1:]) || !slices.EqualFunc(second[i].Args[n+1:], want[i].Args[n+1:], sameArg) {
				t.Errorf("R4: two lists of one answer: %s behind %d, %d", shown(second), i, n)
			}
		}
		args := second[i].Args
		for len(args) < cap(args) {
			args = append(args, api.Arg{Kind: api.ArgNull})
		}
		second[i] = api.Cmd{}
	}
	again, e := Parse(of(name("len"), field("z")))
	if !same(first, want) || e != api.OK || !same(again, []api.Cmd{cmd("len", api.Arg{Path: []string{"z"}})}) {
		t.Errorf("R4: behind a later call: %s", shown(first))
	}
}

// TestCallsAtOneTime: R5, whatever was asked ahead, errors among it.
func TestCallsAtOneTime(t *testing.T) {
	rows := [][]api.Word{
		nil, of(bar()), of(field("a")), of(variable("v", "a", "b"), bar(), name("len")), of(name("cat"), text("a"), number(1)), commandsOf(api.MaxCmds, name("len"), name("true")),
		commandsOf(api.MaxCmds+1, name("len")), row(of(name("cat")), times(api.MaxArgs+1, field())), of(name("foo")), of(number(api.MaxInt + 1)), of(field(), field()),
	}
	type answer struct {
		p   []api.Cmd
		err api.Errno
	}
	var wants []answer
	for _, ws := range rows {
		p, e := Parse(ws)
		wants = append(wants, answer{p, e})
	}
	var all sync.WaitGroup
	for worker := range 8 {
		all.Go(func() {
			for i := range 2000 {
				n := (i*7 + worker*3) % len(rows)
				got, e := Parse(rows[n])
				if e != wants[n].err || !same(got, wants[n].p) || May(got) != (e == api.OK) || May(wants[n].p) != (e == api.OK) {
					t.Errorf("R5: %s: %s, %d", shown(rows[n]), shown(got), e)
				}
			}
		})
	}
	all.Wait()
}

// TestEnds: R1, of great rows of words and commands.
func TestEnds(t *testing.T) {
	begin := time.Now()
	const great = 200000
	long := strings.Repeat("t", api.MaxText)
	part := times(1, name("cat"), text(long), field(path(api.MaxPath)...), bar())
	for _, ws := range [][]api.Word{
		times(great, bar()), times(great, field()), times(great, name("len")), times(great, assign()), times(great, text(long)), row(of(name("cat")), times(great, text(long))), row(of(field()), times(great, bar(), name("len"))), times(great, part...), row(times(great, part...), of(name("len"))), row(of(name("cat")), times(great, field(path(api.MaxPath)...))), row(of(name("cat")), times(great, field(make([]string, great)...))), of(name(strings.Repeat("n", great))), of(variable(strings.Repeat("n", great))),
	} {
		if got, e := Parse(ws); len(got) != 0 || e == api.OK {
			t.Errorf("R1: %d words: %d", len(ws), e)
		}
	}
	args := make([]api.Arg, great)
	for _, p := range [][]api.Cmd{make([]api.Cmd, great), {cmd("cat", args...)}, slices.Repeat([]api.Cmd{cmd("cat", args...)}, great), {cmd("cat", slices.Repeat([]api.Arg{{Path: make([]string, great)}}, great)...)}, {cmd("", api.Arg{Path: make([]string, great)})}, {cmd(strings.Repeat("len", great))}} {
		if May(p) {
			t.Errorf("R1: %d commands may be", len(p))
		}
	}
	if spent := time.Since(begin); spent > 20*time.Second {
		t.Errorf("R1: %v", spent)
	}
}

func BenchmarkParse(b *testing.B) {
	ws := row(of(field("a", "b")), times(api.MaxCmds-1, bar(), name("cat"), variable("v", "a"), text("t"), number(1), name("true")))
	for b.Loop() {
		Parse(ws)
	}
}
