package set

import (
	"math/rand"
	"strconv"
	"strings"
	"testing"

	"stole/api"
	"stole/tmpl"
)

// A second reading of chapter 17: Read is held against one that looks for names in a line of them all, May against Parse itself: items are written as a source, and may be if Parse tells them of it.

// sourceOf writes items as a source.
func sourceOf(items []api.Item) string {
	var out strings.Builder
	for _, i := range items {
		switch i.Kind {
		case api.ItemText:
			// The comment keeps two texts side by side two.
			out.WriteString(i.Text + "{{/**/}}")
		case api.ItemHole:
			out.WriteString("{{" + asked(i.Pipe) + "}}")
		case api.ItemSet:
			out.WriteString("{{$" + i.Text + " := " + asked(i.Pipe) + "}}")
		case api.ItemCall:
			out.WriteString("{{template " + strconv.Quote(i.Text) + " " + asked(i.Pipe) + "}}")
		case api.ItemIf, api.ItemWith, api.ItemRange:
			out.WriteString("{{" + []string{3: "if ", 4: "with ", 5: "range "}[i.Kind] + asked(i.Pipe) + "}}" + sourceOf(i.Then) + "{{else}}" + sourceOf(i.Else) + "{{end}}")
		case api.ItemBreak:
			out.WriteString("{{break}}")
		case api.ItemContinue:
			out.WriteString("{{continue}}")
		}
	}
	return out.String()
}

// asked writes commands.
func asked(p []api.Cmd) string {
	var cmds []string
	for _, c := range p {
		words := []string{c.Fn}
		for _, a := range c.Args {
			path := strings.Join(a.Path, ".")
			words = append(words, [][]string{{"." + path}, {strings.TrimSuffix("$"+a.Name+"."+path, ".")}, {strconv.Itoa(a.Int)}, {strconv.Quote(a.Text)}, {"false", "true"}, {"null"}}[a.Kind][a.Int*(a.Kind/api.ArgBool%2)])
		}
		cmds = append(cmds, strings.Join(words, " "))
	}
	return strings.Join(cmds, "|")
}

// mayBeRead tells whether templates are what Read tells of some sources.
func mayBeRead(ns []api.Named) bool {
	var ts []api.Template
	for _, n := range ns {
		ts = append(ts, template(n.Name, sourceOf(n.Items)))
	}
	got, e := Read(ts)
	return e == api.OK && sameSet(got, ns)
}

// holdMay holds May of templates against the second reading, and gives what it tells.
func holdMay(t *testing.T, ns []api.Named) bool {
	t.Helper()
	want := mayBeRead(ns)
	if May(ns) != want {
		t.Fatalf("P17.2: May(%s): %v", shown(ns), !want)
	}
	return want
}

// wantedOf gives what Read is to tell.
func wantedOf(ts []api.Template) ([]api.Named, api.Errno) {
	isWrong := len(ts) < 1 || len(ts) > api.MaxSet
	names := ""
	for _, t := range ts {
		rest := strings.TrimFunc(t.Name, func(c rune) bool {
			return c < 128 && strings.ContainsRune("ABCDEFGHIJKLMNOPQRSTUVWXYZabcdefghijklmnopqrstuvwxyz0123456789_.-", c)
		})
		isWrong = isWrong || len(t.Name) < 1 || len(t.Name) > api.MaxName || rest != ""
		names += "<" + t.Name + ">"
	}
	if isWrong {
		return nil, api.ErrSetForm
	}
	for _, t := range ts {
		if strings.Count(names, "<"+t.Name+">") > 1 {
			return nil, api.ErrSetName
		}
	}
	var out []api.Named
	var all []api.Item
	for _, t := range ts {
		items, e := tmpl.Parse(t.Source)
		if e != api.OK {
			return nil, e
		}
		out = append(out, named(t.Name, items...))
		all = append(all, items...)
	}
	for len(all) > 0 {
		item := all[0]
		all = append(append(all[1:], item.Then...), item.Else...)
		if item.Kind == api.ItemCall && !strings.Contains(names, "<"+item.Text+">") {
			return nil, api.ErrSetCall
		}
	}
	return out, api.OK
}

// hold holds Read of templates against the second reading, and gives the error.
func hold(t *testing.T, ts []api.Template) api.Errno {
	t.Helper()
	got, e := Read(ts)
	want, err := wantedOf(ts)
	if e != err || !sameSet(got, want) {
		t.Fatalf("P17.1: Read(%s) = %s, %d, want %s, %d", shown(ts), shown(got), e, shown(want), err)
	}
	if May(got) != (e == api.OK) {
		t.Fatalf("P17.2: May of what Read(%s) tells: %v", shown(ts), e != api.OK)
	}
	return e
}

// TestAllShortItems: each choice of some parts for each Kind, at each sort of place.
func TestAllShortItems(t *testing.T) {
	fine, wrong := []api.Cmd{dot()}, []api.Cmd{dot(), dot()}
	seen := map[bool]int{}
	for kind := -1; kind <= 9; kind++ {
		for choice := range 5 * 3 * 4 * 4 {
			item := api.Item{Kind: kind}
			item.Text = []string{"", "m", "a.b", "u", "9"}[choice%5]
			item.Pipe = [][]api.Cmd{nil, fine, wrong}[choice/5%3]
			item.Then = [][]api.Item{nil, of(text("a")), of(ends), of(text("a"), goes)}[choice/15%4]
			item.Else = [][]api.Item{nil, of(text("a")), of(ends), of(call("m"))}[choice/60]
			one := of(item)
			for _, items := range [][]api.Item{one, of(text("a"), item), of(nest(api.ItemIf, one, nil, dot())), of(nest(api.ItemWith, nil, one, dot())), of(nest(api.ItemRange, one, nil, dot())), of(nest(api.ItemRange, nil, one, dot())), of(nest(api.ItemRange, of(nest(api.ItemIf, of(text("a")), one, dot())), nil, dot())), of(nest(api.ItemRange, nil, of(nest(api.ItemWith, one, nil, dot())), dot()))} {
				seen[holdMay(t, []api.Named{named("m", items...), named("a.b")})]++
			}
		}
	}
	if seen[true] < 300 || seen[false] < 10000 {
		t.Errorf("%v", seen)
	}
}

func oneOf[T any](r *rand.Rand, from ...T) T { return from[r.Intn(len(from))] }

var titles = []string{"m", "M", "a.b", "-", "9", "m1", "page.html"}

// chancePipe gives a random pipe; of so many one is wrong.
func chancePipe(r *rand.Rand, wrong int) []api.Cmd {
	if r.Intn(wrong) == 0 {
		return oneOf(r, nil, []api.Cmd{{}}, []api.Cmd{cmd("foo")}, []api.Cmd{dot(), dot()}, []api.Cmd{dot("a b")}, []api.Cmd{cmd("", number(1), number(2))})
	}
	return oneOf(r, []api.Cmd{dot()}, []api.Cmd{dot("a", "b")}, []api.Cmd{cmd("len")}, []api.Cmd{cmd("", number(-3)), cmd("cat", quoted("m"))}, []api.Cmd{cmd("", api.Arg{Kind: api.ArgVar, Name: "v"}), cmd("and", api.Arg{Kind: api.ArgBool, Int: 1}, api.Arg{Kind: api.ArgNull})})
}

// chanceItems gives random items up to a depth; of so many one is wrong, and of their parts, too.
func chanceItems(r *rand.Rand, depth, wrong int, inLoop bool) []api.Item {
	var out []api.Item
	for range r.Intn(4) {
		item := chanceItem(r, depth, wrong, inLoop)
		if r.Intn(wrong) == 0 {
			turnOne(r, &item)
		}
		out = append(out, item)
	}
	return out
}

// chanceItem gives a random item.
func chanceItem(r *rand.Rand, depth, wrong int, inLoop bool) api.Item {
	kind := r.Intn(9)
	for kind >= api.ItemBreak && !inLoop && r.Intn(wrong) > 0 || kind >= api.ItemIf && kind <= api.ItemRange && depth == 0 {
		kind = r.Intn(9)
	}
	switch kind {
	case api.ItemText:
		return text(oneOf(r, "a", " ", "\n", "<p>", "}}", "\xff"))
	case api.ItemHole:
		return hole(chancePipe(r, wrong)...)
	case api.ItemSet:
		return assign(oneOf(r, "v", "_", "Z9"), chancePipe(r, wrong)...)
	case api.ItemCall:
		return call(oneOf(r, titles...), oneOf(r, nil, chancePipe(r, wrong))...)
	case api.ItemIf, api.ItemWith, api.ItemRange:
		return nest(kind, chanceItems(r, depth-1, wrong, inLoop || kind == api.ItemRange), chanceItems(r, depth-1, wrong, inLoop), chancePipe(r, wrong)...)
	}
	return api.Item{Kind: kind}
}

// turnOne turns one part of an item.
func turnOne(r *rand.Rand, item *api.Item) {
	switch r.Intn(5) {
	case 0:
		item.Kind = r.Intn(12) - 1
	case 1:
		item.Text = oneOf(r, "", "a", "m", "9", "a b", "u", "M")
	case 2:
		item.Pipe = chancePipe(r, 2)
	case 3:
		item.Then = chanceItems(r, 1, 20, true)
	case 4:
		item.Else = chanceItems(r, 1, 20, true)
	}
}

// chanceNames gives so many titles that are not the same, or, one time of so many, some that are wrong.
func chanceNames(r *rand.Rand, count, wrong int) []string {
	var out []string
	for _, i := range r.Perm(len(titles))[:count] {
		out = append(out, titles[i])
	}
	if count > 0 && r.Intn(wrong) == 0 {
		out[r.Intn(count)] = oneOf(r, "", "a b", "é", "m\x00", times(api.MaxName+1, "n"), out[r.Intn(count)])
	}
	return out
}

func TestItemsOfChance(t *testing.T) {
	r := rand.New(rand.NewSource(17))
	seen := map[bool]int{}
	for i := range 10000 {
		var ns []api.Named
		for _, name := range chanceNames(r, len(titles)-r.Intn(3)*(i%2), 10) {
			ns = append(ns, named(name, chanceItems(r, 3, 100, false)...))
		}
		seen[holdMay(t, ns)]++
	}
	for range 400 {
		n := r.Intn(api.MaxBlocks + 3)
		ns := []api.Named{named("m", oneOf(r, within(n, text("a"), api.ItemRange), inElse(n, call("m"), api.ItemIf), append(within(n, ends, api.ItemRange), deep(n, api.ItemWith)...))...)}
		seen[holdMay(t, ns)]++
	}
	if seen[true] < 1000 || seen[false] < 1000 {
		t.Errorf("%v", seen)
	}
}

func TestSetsOfChance(t *testing.T) {
	r := rand.New(rand.NewSource(71))
	seen := map[api.Errno]int{}
	for range 10000 {
		ts := titled(chanceNames(r, r.Intn(len(titles)+1), 8)...)
		for i := range ts {
			ts[i].Source = sourceOf(chanceItems(r, 3, 1000, false))
			if r.Intn(20) == 0 {
				ts[i].Source += oneOf(r, "{{", "{{?}}", "{{\"\\q\"}}", "{{-}}", "{{foo}}", "{{end}}", "{{if .}}", "{{else}}", "{{break}}", "{{}}")
			}
		}
		seen[hold(t, ts)]++
	}
	for _, e := range []api.Errno{api.OK, api.ErrSetForm, api.ErrSetName, api.ErrSetCall, api.ErrLexOpen, api.ErrWordsForm, api.ErrPipeForm, api.ErrTmplEnd, api.ErrTmplElse, api.ErrTmplLoop, api.ErrTmplAction} {
		if seen[e] < 50 {
			t.Errorf("%d: %v", e, seen)
		}
	}
}

func FuzzRead(f *testing.F) {
	for _, s := range []string{"", "a{{.}}b", busy, "{{template \"a\"}}", "{{template \"b\" .}}", "{{if .}}{{template \"c\"}}{{end}}", "{{end}}", "{{"} {
		f.Add("a", s, "b", busy)
		f.Add("t", s, "p", s)
	}
	f.Fuzz(func(t *testing.T, a, s, b, z string) {
		hold(t, []api.Template{template(a, s), template(b, z)})
		hold(t, []api.Template{template(a, s)})
	})
}
