package tmpl

import (
	"math/rand"
	"regexp"
	"strings"
	"testing"

	"stole/api"
	"stole/lex"
	"stole/pipe"
	"stole/words"
)

// A second reading of chapter 16, that Parse is held against: each piece is told by a sign, what it would be alone; which row of signs may be is asked for by cutting away what is whole, without a stack.

// told is a piece alone: its sign, the item that it is or begins, its error.
type told struct {
	sign string // t: an item, i, w, r: a begin, b, n: a break, a continue, e: an else, d: an end, x: a fault
	item api.Item
	err  api.Errno
}

var (
	alone  = regexp.MustCompile(`^(if|with|range)\b|^(else|end|break|continue)$|^template "`)
	letter = map[string]string{"if": "i", "with": "w", "range": "r", "else": "e", "end": "d", "break": "b", "continue": "n"}
	sets   = regexp.MustCompile(`^\$[A-Za-z_0-9]+ :=( |$)`)
)

// line gives words as one line that a pattern can tell.
func line(ws []api.Word) string {
	var out []string
	for _, w := range ws {
		path := strings.Join(w.Path, ".")
		out = append(out, []string{w.Text, "." + path, strings.TrimSuffix("$"+w.Text+"."+path, "."), "1", `"`, "|", ":="}[w.Kind])
	}
	return strings.Join(out, " ")
}

// tell tells what a piece is alone.
func tell(p api.Piece) told {
	if !p.Action {
		return told{sign: "t", item: text(p.Text)}
	}
	ws, err := words.Words(p.Text)
	if err != api.OK {
		return told{sign: "x", err: err}
	}
	s := line(ws)
	first, _, _ := strings.Cut(s, " ")
	is := told{sign: "t", item: hole()}
	switch {
	case len(ws) == 0 || letter[first] != "" && !alone.MatchString(s) || first == "template" && !alone.MatchString(s):
		return told{sign: "x", err: api.ErrTmplAction}
	case begins[first] != 0:
		is, ws = told{sign: letter[first], item: nest(begins[first], nil, nil)}, ws[1:]
	case letter[first] != "":
		return told{sign: letter[first], item: map[string]api.Item{"break": ends, "continue": goes}[first]}
	case first == "template":
		is, ws = told{sign: "t", item: call(ws[1].Text)}, ws[2:]
		if len(ws) == 0 {
			return is
		}
	case sets.MatchString(s):
		is, ws = told{sign: "t", item: set(ws[0].Text)}, ws[2:]
	}
	is.item.Pipe, err = pipe.Parse(ws)
	if err != api.OK {
		return told{sign: "x", err: err}
	}
	return is
}

var (
	whole   = regexp.MustCompile(`[iwr]t*(et*)?d`)
	inLoop  = regexp.MustCompile(`r([^e]|$)`)
	hasElse = regexp.MustCompile(`e[^iwr]*$`)
)

// folded gives a row of signs without breaks and continues, and with what is whole as one item each.
func folded(signs string) string {
	for {
		next := whole.ReplaceAllString(strings.NewReplacer("b", "t", "n", "t").Replace(signs), "t")
		if next == signs {
			return signs
		}
		signs = next
	}
}

// opened gives the begins that are open behind a row of signs, each with its else, if it had one.
func opened(signs string) string { return strings.ReplaceAll(folded(signs), "t", "") }

// mayFollow tells the error of a piece behind a row of signs that may be.
func mayFollow(signs string, is told) api.Errno {
	open := opened(signs)
	switch is.sign {
	case "x":
		return is.err
	case "e":
		if open == "" || hasElse.MatchString(open) {
			return api.ErrTmplElse
		}
	case "d":
		if open == "" {
			return api.ErrTmplEnd
		}
	case "b", "n":
		if !inLoop.MatchString(open) {
			return api.ErrTmplLoop
		}
	case "i", "w", "r":
		if len(open)-strings.Count(open, "e") == api.MaxBlocks {
			return api.ErrTmplDeep
		}
	}
	return api.OK
}

// wanted gives what Parse is to answer.
func wanted(source string) ([]api.Item, api.Errno) {
	pieces, err := lex.Split(source)
	if err != api.OK {
		return nil, err
	}
	var all []told
	signs := ""
	for _, p := range pieces {
		is := tell(p)
		if err := mayFollow(signs, is); err != api.OK {
			return nil, err
		}
		signs = signs + is.sign
		all = append(all, is)
	}
	if opened(signs) != "" {
		return nil, api.ErrTmplEnd
	}
	items, _ := rows(all)
	return items, api.OK
}

// rows gives the items of pieces up to an else or an end, and the pieces from there on.
func rows(all []told) ([]api.Item, []told) {
	var out []api.Item
	for len(all) > 0 && all[0].sign != "e" && all[0].sign != "d" {
		is := all[0]
		all = all[1:]
		if strings.Contains("iwr", is.sign) {
			is.item.Then, all = rows(all)
			if all[0].sign == "e" {
				is.item.Else, all = rows(all[1:])
			}
			all = all[1:]
		}
		out = append(out, is.item)
	}
	return out, all
}

// hold holds Parse of a source against the second reading, and gives the error.
func hold(t *testing.T, source string) api.Errno {
	t.Helper()
	got, e := Parse(source)
	want, err := wanted(source)
	if e != err || !same(got, want) {
		t.Fatalf("P16.1: Parse(%.500q) = %s, %d, want %s, %d", source, shown(got), e, shown(want), err)
	}
	return e
}

// TestAllShortRows: each short row of pieces.
func TestAllShortRows(t *testing.T) {
	var all func(source string, pieces []string, left int)
	all = func(source string, pieces []string, left int) {
		hold(t, source)
		if left == 0 {
			return
		}
		for _, p := range pieces {
			all(source+p, pieces, left-1)
		}
	}
	all("", []string{"{{if .}}", "{{range .a}}", "{{else}}", "{{end}}", "{{break}}", "b"}, 6)
	all("", []string{"{{range .}}", "{{else}}", "{{end}}", "{{continue}}"}, 8)
	all("", []string{"{{with $a}}", "{{range 1}}", "{{else}}", "{{end}}", "{{template \"t\"}}", "{{$v := .}}", "{{.}}", "a", "{{foo}}", "{{}}"}, 4)
	all(times(api.MaxBlocks-2, "{{range .}}{{else}}"), []string{"{{range .}}", "{{if .}}", "{{else}}", "{{end}}", "{{break}}"}, 5)
}

// TestAllShortActions: each short row of words.
func TestAllShortActions(t *testing.T) {
	var all func(action string, ws []string, left int)
	all = func(action string, ws []string, left int) {
		hold(t, "{{"+action+"}}")
		hold(t, "{{range .}}a{{"+action+"}}b{{end}}")
		if left == 0 {
			return
		}
		for _, w := range ws {
			all(action+" "+w, ws, left-1)
		}
	}
	all("", []string{"if", "with", "range", "else", "end", "break", "continue", "template", "len", "true", "foo", ".", ".if", "$v", "$v.a", "1", "\"t\"", "|", ":=", "?"}, 3)
	all("", []string{"template", "\"t\"", "$v", ":=", "|", "cat", "."}, 5)
}

var (
	actions = []string{"if .", "if .a | not", "with $v", "with .", "range .", "range .items", "range 1", "else", "end", "break", "continue", "template \"t\"", "template \"a b\" .x | len", "$v := 1", "$w := cat .a \"b\"", ".", ".a.b", "$v.a | len", "true", "\"end\"", "len ."}
	wrong   = []string{"", "foo", "if", "range . .", "else if .", "end .", "break 1", "continue |", "template", "template .", "template \"t\" |", "$v :=", "$v.a := 1", ". := 1", "?", "\"\\q\"", ". - 1", "9007199254740992", "cat 1 2 3 4 5 6 7 8 9", "If .", "ELSE", "Template \"t\"", "with len|"}
	between = []string{"a", " ", "\n", "<p>", "{{/* a */}}", "}}", "\xff"}
)

func oneOf(r *rand.Rand, from []string) string { return from[r.Intn(len(from))] }

// chance gives a random source of so many pieces, of which one of so many is wrong.
func chance(r *rand.Rand, pieces, faulty int) string {
	var out strings.Builder
	for range pieces {
		switch {
		case r.Intn(faulty) == 0:
			out.WriteString("{{" + oneOf(r, wrong) + "}}")
		case r.Intn(3) == 0:
			out.WriteString(oneOf(r, between))
		default:
			out.WriteString("{{" + oneOf(r, []string{"", "- ", " "}) + oneOf(r, actions) + oneOf(r, []string{"", " -", "\n"}) + "}}")
		}
	}
	return out.String()
}

// nested gives a random source in which each begin has its end, up to a depth; break and continue stand where they may.
func nested(r *rand.Rand, depth int, inLoop bool) string {
	var out strings.Builder
	for range r.Intn(4) {
		switch n := r.Intn(8); {
		case n < 2:
			out.WriteString(oneOf(r, between))
		case n < 4:
			out.WriteString("{{" + oneOf(r, actions[11:]) + "}}")
		case n == 4 && inLoop:
			out.WriteString(oneOf(r, []string{"{{break}}", "{{continue}}"}))
		case depth > 0:
			begin := r.Intn(7)
			out.WriteString("{{" + actions[begin] + "}}" + nested(r, depth-1, inLoop || begin > 3))
			if r.Intn(2) == 0 {
				out.WriteString("{{else}}" + nested(r, depth-1, inLoop))
			}
			out.WriteString("{{end}}")
		}
	}
	return out.String()
}

// turned gives a source with one of its actions turned into another.
func turned(r *rand.Rand, source string) string {
	places := regexp.MustCompile(`\{\{[^{}]*\}\}`).FindAllStringIndex(source, -1)
	if len(places) == 0 {
		return source
	}
	at := places[r.Intn(len(places))]
	with := oneOf(r, actions)
	if r.Intn(3) == 0 {
		with = oneOf(r, wrong)
	}
	return source[:at[0]] + "{{" + with + "}}" + source[at[1]:]
}

func TestSourcesOfChance(t *testing.T) {
	r := rand.New(rand.NewSource(16))
	seen := map[api.Errno]int{}
	for range 10000 {
		seen[hold(t, chance(r, r.Intn(12), 20))]++
		source := nested(r, 4, false)
		if e := hold(t, source); e != api.OK {
			t.Fatalf("P16.1: %.300q: %d", source, e)
		}
		seen[hold(t, turned(r, source))]++
		seen[hold(t, turned(r, times(r.Intn(17), "{{with .}}")+turned(r, source)))]++
	}
	for range 300 {
		n := r.Intn(api.MaxBlocks + 3)
		source := times(n, oneOf(r, []string{"{{if .}}", "{{range .}}a{{else}}"})) + nested(r, 3, false) + times(n, "{{end}}")
		seen[hold(t, source)]++
	}
	for _, e := range []api.Errno{api.OK, api.ErrWordsForm, api.ErrWordsText, api.ErrWordsInt, api.ErrPipeForm, api.ErrPipeMany, api.ErrTmplEnd, api.ErrTmplElse, api.ErrTmplLoop, api.ErrTmplDeep, api.ErrTmplAction} {
		if seen[e] < 50 {
			t.Errorf("%d: %v", e, seen)
		}
	}
}

func FuzzParse(f *testing.F) {
	for _, s := range []string{"", "a{{.}}b", busy, "{{if .}}{{else}}{{end}}", "{{range .}}{{break}}{{end}}", "{{template \"t\" .}}", "{{$v := 1}}", "{{end}}", "{{if .}}", "{{", "{{else .}}"} {
		f.Add(s)
	}
	f.Fuzz(func(t *testing.T, s string) { hold(t, s) })
}
