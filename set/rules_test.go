package set

import (
	"fmt"
	"slices"
	"strings"
	"sync"
	"testing"
	"time"
	"unsafe"

	"stole/api"
)

// busy calls t and p, and has each Kind of item, of argument, and lists of all depths.
const busy = `a{{$v := cat .a.b "c" $d.e}}{{range .x.y}}{{if eq .z 1}}f{{break}}{{else}}g{{continue}}{{.a.b}}{{end}}{{template "t" .i.j | len}}{{with $k}}l{{else}}m{{end}}{{else}}{{"n"}}o{{end}}{{template "p"}}q{{if .}}r{{end}}{{if .}}s{{end}}`

// fill puts x into each place of a list, its spare room too.
func fill[T any](list []T, x T) {
	list = list[:cap(list)]
	for i := range list {
		list[i] = x
	}
}

// turnEach turns each list of items, takes it away, and tells then what it was.
func turnEach(items []api.Item, turned func(what string)) {
	for i := range items {
		for n := range items[i].Pipe {
			args := items[i].Pipe[n].Args
			for k := range args {
				fill(args[k].Path, "!")
				args[k].Path = nil
				turned("a Path")
			}
			fill(args, quoted("!"))
			items[i].Pipe[n].Args = nil
			turned("Args")
		}
		fill(items[i].Pipe, cmd("!"))
		items[i].Pipe = nil
		turned("a Pipe")
		turnEach(items[i].Then, turned)
		fill(items[i].Then, text("!"))
		items[i].Then = nil
		turned("a Then")
		turnEach(items[i].Else, turned)
		fill(items[i].Else, text("!"))
		items[i].Else = nil
		turned("an Else")
	}
}

// texts gives each text of items that is not empty.
func texts(items []api.Item) []string {
	var out []string
	for _, i := range items {
		out = append(out, i.Text)
		for _, c := range i.Pipe {
			out = append(out, c.Fn)
			for _, a := range c.Args {
				out = append(append(out, a.Name, a.Text), a.Path...)
			}
		}
		out = append(append(out, texts(i.Then)...), texts(i.Else)...)
	}
	return slices.DeleteFunc(out, func(s string) bool { return s == "" })
}

// textsOf gives each text of templates, their names among them.
func textsOf(ns []api.Named) []string {
	var out []string
	for _, n := range ns {
		out = append(append(out, n.Name), texts(n.Items)...)
	}
	return out
}

// TestWhatIsAnsweredStandsAlone: R4, of what is handed in, of two answers, and within one; two sources are one text here.
func TestWhatIsAnsweredStandsAlone(t *testing.T) {
	memory := []byte("tp" + busy)
	handed := unsafe.String(&memory[0], len(memory))
	ts := []api.Template{template(handed[:1], handed[2:]), template(handed[1:2], handed[2:])}
	want, e := Read([]api.Template{template("t", busy), template("p", busy)})
	if e != api.OK {
		t.Fatal(e)
	}
	first, _ := Read(ts)
	second, _ := Read(ts)
	third, _ := Read(ts)
	if string(memory) != "tp"+busy || ts[0].Name != "t" || ts[1].Source != busy {
		t.Error("R4: what is handed in is turned")
	}
	for i := range memory {
		memory[i] = '!'
	}
	fill(ts, template("!", "!"))
	if !sameSet(first, want) || !sameSet(second, want) || !sameSet(third, want) {
		t.Errorf("R4: behind what was handed in: %s", shown(first))
	}
	one, two := textsOf(first), textsOf(second)
	for i := range one {
		if unsafe.StringData(one[i]) == unsafe.StringData(two[i]) {
			t.Errorf("R4: the text %q of two answers", one[i])
		}
	}
	isAlone := func(what string) {
		if n := strings.Count(fmt.Sprintf("%+v", second), "!"); n != 0 {
			t.Errorf("R4: %s stands in another list too, %d times", what, n)
		}
	}
	fill(second[len(second):], named("!"))
	isAlone("the templates' spare room")
	for i := range second {
		turnEach(second[i].Items, isAlone)
		fill(second[i].Items, text("!"))
		second[i].Items = nil
		isAlone("Items")
	}
	fill(second, named("!"))
	Read(row("a", "{{.b}}"))
	Read([]api.Template{template("t", busy), template("p", "{{")})
	May(first)
	again, e := Read([]api.Template{template("t", busy), template("p", busy)})
	if !sameSet(first, want) || e != api.OK || !sameSet(again, want) {
		t.Errorf("R4: behind later calls: %s", shown(first))
	}
}

// roomy gives a copy of a list with spare room behind it.
func roomy[T any](list []T) []T { return append(make([]T, 0, len(list)+3), list...) }

// roomyItems gives a copy of items in which each list has spare room.
func roomyItems(items []api.Item) []api.Item {
	out := roomy(items)
	for i := range out {
		out[i].Then, out[i].Else, out[i].Pipe = roomyItems(out[i].Then), roomyItems(out[i].Else), roomy(out[i].Pipe)
		for n := range out[i].Pipe {
			out[i].Pipe[n].Args = roomy(out[i].Pipe[n].Args)
			for k := range out[i].Pipe[n].Args {
				out[i].Pipe[n].Args[k].Path = roomy(out[i].Pipe[n].Args[k].Path)
			}
		}
	}
	return out
}

// whole tells items as far as their lists have room.
func whole(items []api.Item) string {
	out := fmt.Sprintf("%+v", items[:cap(items)])
	for _, i := range items {
		out += whole(i.Then) + whole(i.Else) + fmt.Sprintf("%+v", i.Pipe[:cap(i.Pipe)])
		for _, c := range i.Pipe {
			out += fmt.Sprintf("%+v", c.Args[:cap(c.Args)])
			for _, a := range c.Args {
				out += fmt.Sprintf("%q", a.Path[:cap(a.Path)])
			}
		}
	}
	return out
}

// TestWhatIsHandedInStays: R4, its spare room too, of Read and of May, whatever they answer.
func TestWhatIsHandedInStays(t *testing.T) {
	ts := roomy([]api.Template{template("t", busy), template("p", "a{{template \"t\"}}")})
	back := ts[:cap(ts)]
	before := slices.Clone(back)
	ns, e := Read(ts)
	if e != api.OK {
		t.Fatal(e)
	}
	Read(ts[:1])
	Read(back)
	if !slices.Equal(back, before) {
		t.Errorf("R4: what Read is given is turned: %s", shown(back))
	}
	for _, wrong := range []api.Item{{}, text(""), call("u"), ends, hole(), {Kind: 9}} {
		for i := range ns {
			for _, last := range [][]api.Item{nil, of(wrong)} {
				handed := roomy(ns)
				handed[0].Items, handed[1].Items = roomyItems(ns[0].Items), roomyItems(ns[1].Items)
				handed[i].Items = append(handed[i].Items, last...)
				told := func() string {
					return fmt.Sprintf("%+v", handed[:cap(handed)]) + whole(handed[0].Items) + whole(handed[1].Items)
				}
				before := told()
				if got := May(handed); got != (last == nil) {
					t.Errorf("P17.2: with %+v: %v", last, got)
				}
				if told() != before {
					t.Errorf("R4: what May is given is turned, with %+v", last)
				}
			}
		}
	}
}

// TestCallsAtOneTime: R5, whatever was asked ahead, errors among it.
func TestCallsAtOneTime(t *testing.T) {
	sets := [][]api.Template{
		nil, row(""), row("a", "b"), {template("t", busy), template("p", busy)}, {template("t", busy)}, titled("a", "a"), titled("a b"), row("{{"), row("{{?}}", "{{"), row("{{foo}}"), row("{{if .}}"), row(`{{template "t1"}}`, `{{template "t0" .}}`), row(`{{template "t1"}}`), row(slices.Repeat([]string{"a{{.}}"}, api.MaxSet)...), row(slices.Repeat([]string{"a{{.}}"}, api.MaxSet+1)...),
	}
	type answer struct {
		ns  []api.Named
		err api.Errno
	}
	var wants []answer
	for _, ts := range sets {
		ns, e := Read(ts)
		wants = append(wants, answer{ns, e})
	}
	wrong := []api.Named{named("m", text("a"), call("n"))}
	var all sync.WaitGroup
	for worker := range 8 {
		all.Go(func() {
			for i := range 500 {
				n := (i*7 + worker*4) % len(sets)
				got, e := Read(sets[n])
				if e != wants[n].err || !sameSet(got, wants[n].ns) || May(got) != (e == api.OK) || May(wants[n].ns) != (e == api.OK) || May(wrong) {
					t.Errorf("R5: %s: %s, %d", shown(sets[n]), shown(got), e)
				}
			}
		})
	}
	all.Wait()
}

// round gives items that stand within themselves.
func round(kind, n int) []api.Item {
	items := make([]api.Item, n)
	for i := range items {
		items[i] = nest(kind, items, items, dot())
	}
	return items
}

// wide gives so many items of which each holds, in Then and in Else, one and the same row of as many, and so on.
func wide(depth, n int) []api.Item {
	if depth == 0 {
		return slices.Repeat(of(text("a")), n)
	}
	inner := wide(depth-1, n)
	return slices.Repeat(of(nest(api.ItemRange, inner, inner, dot())), n)
}

// TestMayEnds: R1, of items that stand in themselves, in great depth, in great numbers.
func TestMayEnds(t *testing.T) {
	begin := time.Now()
	long := times(1<<20, "n")
	many := slices.Repeat([]api.Cmd{cmd("cat", make([]api.Arg, 1000)...)}, 1000)
	for _, kind := range []int{api.ItemIf, api.ItemWith, api.ItemRange} {
		may(t, false, round(kind, 1), round(kind, 2), round(kind, 3), round(kind, 100), round(kind, api.MaxPieces), round(kind, 100000), within(1<<16, text("a"), kind), inElse(1<<16, text("a"), kind))
		one := round(kind, 1)
		one[0].Else = nil
		may(t, false, one, of(nest(api.ItemRange, one, nil, dot())))
		one[0].Then, one[0].Else = nil, one
		may(t, false, one, inLoop(one[0]))
	}
	for depth := 1; depth <= api.MaxBlocks+1; depth++ {
		for _, n := range []int{2, 3, 10, 33, api.MaxPieces} {
			// So many items they are, told one by one.
			all, row := 0, 1
			for range depth {
				all, row = min(all+row*n, 1<<30), min(row*n*2, 1<<17)
			}
			all = min(all+row*n, 1<<30)
			may(t, all <= api.MaxPieces && depth <= api.MaxBlocks, wide(depth, n))
		}
	}
	may(t, false, of(text(long)), of(assign(long, dot())), of(call(long)), of(hole(many...)), of(hole(dot(long))), slices.Repeat(of(text("a")), 1<<17), slices.Repeat(of(text("")), 1<<17), slices.Repeat(of(hole(many...)), 1<<10), of(nest(api.ItemIf, slices.Repeat(of(nest(api.ItemIf, nil, nil, dot())), 1<<17), nil, dot())))
	if May(make([]api.Named, 1<<17)) || May(slices.Repeat([]api.Named{named("a", round(api.ItemIf, 1)...)}, 1<<17)) || May([]api.Named{named(long)}) {
		t.Error("P17.2: too many templates, or a long name")
	}
	// As great as a set may be.
	whole := slices.Repeat([]api.Cmd{cmd("cat", slices.Repeat([]api.Arg{{Kind: api.ArgVar, Name: times(api.MaxName, "n"), Path: slices.Repeat([]string{times(api.MaxName, "n")}, api.MaxPath)}}, api.MaxArgs)...)}, api.MaxCmds)
	var ns []api.Named
	for _, title := range row(make([]string, api.MaxSet)...) {
		ns = append(ns, named(title.Name, slices.Repeat(of(hole(whole...)), api.MaxPieces)...))
	}
	if !May(ns) {
		t.Error("P17.2: a set as great as may be")
	}
	if spent := time.Since(begin); spent > 20*time.Second {
		t.Errorf("R1: %v", spent)
	}
}

// TestReadEnds: R1, of great sets, each source of one part again and again.
func TestReadEnds(t *testing.T) {
	begin := time.Now()
	for _, part := range []string{"a", "{", "{{", "{{}}", "{{.}}", "{{.}}a", "{{if .}}", "{{range .}}{{else}}", "{{else}}", "{{end}}", "{{if .}}{{end}}", "{{template \"t0\"}}", "{{template \"u\"}}", "{{$a := .}}", "{{\"", "\x00", "\r"} {
		for _, n := range []int{100, api.MaxPieces / 2, api.MaxPieces, api.MaxText / len(part), 10 * api.MaxText} {
			for _, count := range []int{1, api.MaxSet, api.MaxSet + 1, 10000} {
				ns, e := Read(row(slices.Repeat([]string{times(n, part)}, count)...))
				if e != api.OK && len(ns) != 0 || e == api.OK && !May(ns) {
					t.Errorf("R2: %d times %q: %d templates, %d", n, part, len(ns), e)
				}
			}
		}
	}
	refuse(t, api.ErrSetForm, make([]api.Template, 1<<17), titled(times(1<<20, "n")), titled(slices.Repeat([]string{"a"}, 1<<17)...))
	if spent := time.Since(begin); spent > 20*time.Second {
		t.Errorf("R1: %v", spent)
	}
}

func BenchmarkRead(b *testing.B) {
	ts := row(slices.Repeat([]string{times(170, "a{{if .a}}{{template \"t1\" .b}}{{else}}b{{end}}")}, api.MaxSet)...)
	for b.Loop() {
		Read(ts)
	}
}

func BenchmarkMay(b *testing.B) {
	ns, _ := Read(row(slices.Repeat([]string{times(170, "a{{if .a}}{{template \"t1\" .b}}{{else}}b{{end}}")}, api.MaxSet)...))
	for b.Loop() {
		May(ns)
	}
}
