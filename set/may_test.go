package set

import (
	"slices"
	"strings"
	"testing"

	"stole/api"
	"stole/pipe"
)

// may holds May of rows of items, each as a template m with others beside it, against what is wanted.
func may(t *testing.T, want bool, rows ...[]api.Item) {
	t.Helper()
	for _, items := range rows {
		for i, ns := range [][]api.Named{{named("m", items...)}, {named("m", items...), named("b", text("b"))}, {named("b"), named("c", hole(dot())), named("m", items...)}} {
			if May(ns) != want {
				t.Errorf("P17.2: May of %s, set %d: %v", shown(items), i, !want)
			}
		}
	}
}

// parts are what an item may have beside its Kind, each once: a Text, a Pipe, a Then, an Else.
var parts = []struct {
	name string
	put  func(i *api.Item)
}{
	{"text", func(i *api.Item) { i.Text = "m" }},
	{"pipe", func(i *api.Item) { i.Pipe = []api.Cmd{dot()} }},
	{"then", func(i *api.Item) { i.Then = of(text("a")) }},
	{"else", func(i *api.Item) { i.Else = of(text("a")) }},
}

// kinds tells by Kind which parts an item must have, and which it may have.
var kinds = map[int][2]string{
	api.ItemText: {"text", ""}, api.ItemHole: {"pipe", ""}, api.ItemSet: {"text pipe", ""}, api.ItemIf: {"pipe", "then else"}, api.ItemWith: {"pipe", "then else"}, api.ItemRange: {"pipe", "then else"}, api.ItemCall: {"text", "pipe"}, api.ItemBreak: {}, api.ItemContinue: {},
}

// inLoop gives a range in whose Then an item stands, for those that must.
func inLoop(i api.Item) []api.Item { return of(nest(api.ItemRange, of(i), nil, dot())) }

// TestEachKind: with each choice of parts.
func TestEachKind(t *testing.T) {
	for kind, is := range kinds {
		for choice := range 1 << len(parts) {
			item, want := api.Item{Kind: kind}, true
			for n, p := range parts {
				has, must, could := choice>>n&1 == 1, strings.Contains(is[0], p.name), strings.Contains(is[1], p.name)
				if has {
					p.put(&item)
				}
				if has && !must && !could || !has && must {
					want = false
				}
			}
			may(t, want, inLoop(item), of(nest(api.ItemRange, of(nest(api.ItemIf, nil, of(item), dot())), nil, dot())))
			if kind != api.ItemBreak && kind != api.ItemContinue {
				may(t, want, of(item), of(text("a"), item, text("b")), of(nest(api.ItemWith, nil, of(item), dot())))
			}
		}
	}
	for _, kind := range []int{9, 10, 100, 1 << 62, -1, -2, -1 << 63, 1<<63 - 1, 256, 1 << 32, 1<<32 + 1} {
		may(t, false, of(api.Item{Kind: kind}), of(text("a"), api.Item{Kind: kind}), inLoop(api.Item{Kind: kind}), inLoop(nest(api.ItemIf, nil, of(api.Item{Kind: kind}), dot())))
		for _, p := range parts {
			item := api.Item{Kind: kind}
			p.put(&item)
			may(t, false, of(item), inLoop(item))
		}
	}
	may(t, true, nil, []api.Item{}, of(text("a"), text("a")), of(hole(dot()), hole(dot())))
}

// TestEmptyLists: they are as none.
func TestEmptyLists(t *testing.T) {
	empty := api.Item{Pipe: []api.Cmd{}, Then: []api.Item{}, Else: make([]api.Item, 0, 3)}
	for kind, is := range kinds {
		item := empty
		item.Kind = kind
		for _, p := range parts {
			if strings.Contains(is[0], p.name) {
				p.put(&item)
			}
		}
		may(t, true, inLoop(item))
	}
}

func TestTexts(t *testing.T) {
	may(t, false, of(text("")), of(text("a"), text("")), of(nest(api.ItemIf, of(text("")), nil, dot())), of(nest(api.ItemIf, nil, of(text("")), dot())), of(hole(dot()), text(""), text("a")))
	may(t, true, of(text(" ")), of(text("\x00")), of(text("\xff")), of(text("{{")), of(text("\r")), of(text("}}")), of(text("<p>")), of(text("é")))
	long := func(n int) api.Item { return text(times(n, "t")) }
	const most = api.MaxText
	may(t, true, of(long(most)), of(long(most-1), long(1)), of(long(1), long(most-1)), of(long(most/2), hole(dot()), long(most/2)), slices.Repeat(of(long(most/api.MaxPieces)), api.MaxPieces),
		of(nest(api.ItemIf, of(long(most)), nil, dot())), of(nest(api.ItemIf, nil, of(long(most)), dot())), of(nest(api.ItemRange, of(long(most/2)), of(long(most/2)), dot())), of(long(most/4), nest(api.ItemWith, of(long(most/4)), of(nest(api.ItemIf, of(long(most/4)), nil, dot())), dot()), long(most/4)))
	may(t, false, of(long(most+1)), of(long(most), long(1)), of(long(1), long(most)), of(long(most/2), hole(dot()), long(most/2+1)), append(slices.Repeat(of(long(most/api.MaxPieces)), api.MaxPieces-1), long(most/api.MaxPieces+1)),
		of(nest(api.ItemIf, of(long(most+1)), nil, dot())), of(nest(api.ItemIf, nil, of(long(most+1)), dot())), of(nest(api.ItemRange, of(long(most/2)), of(long(most/2+1)), dot())), of(nest(api.ItemRange, of(long(most)), of(long(1)), dot())), of(nest(api.ItemRange, of(long(1)), nil, dot()), long(most)), of(long(most/4), nest(api.ItemWith, of(long(most/4)), of(nest(api.ItemIf, of(long(most/4)), nil, dot())), dot()), long(most/4+1)),
		of(long(2*most)), slices.Repeat(of(long(most)), 10))
	// Other texts than those of ItemTexts are not counted, and each template has a room of its own.
	said := dot()
	said.Args = append(said.Args[:0:0], quoted(times(most, "t")))
	may(t, true, of(long(most), hole(said), call("m", said), assign("v", said), nest(api.ItemIf, nil, nil, said)), of(hole(said), hole(said), long(most)))
	ns := []api.Named{named("a", long(most)), named("b", long(most/2), long(most/2)), named("c", nest(api.ItemIf, of(long(most)), nil, dot()))}
	if !May(ns) {
		t.Error("P17.2: three templates of MaxText bytes each may not be")
	}
	for i := range ns {
		wrong := slices.Clone(ns)
		wrong[i].Items = append(of(text("a")), ns[i].Items...)
		if May(wrong) {
			t.Errorf("P17.2: template %d of MaxText bytes and one may be", i)
		}
	}
}

// pipes that may be, and that may not.
func pipes() (fine, wrong [][]api.Cmd) {
	fine = [][]api.Cmd{{dot()}, {dot("a", "b")}, {cmd("len")}, {dot(), cmd("not")}, {cmd("", number(api.MaxInt))}, {cmd("cat", quoted(""), api.Arg{Kind: api.ArgVar, Name: "v"}, api.Arg{Kind: api.ArgBool, Int: 1}, api.Arg{Kind: api.ArgNull})}, slices.Repeat([]api.Cmd{cmd("cat", make([]api.Arg, api.MaxArgs)...)}, api.MaxCmds)}
	wrong = [][]api.Cmd{{{}}, {cmd("")}, {cmd("foo")}, {cmd("LEN")}, {dot(), dot()}, {dot(), cmd("")}, {cmd("", number(1), number(1))}, {cmd("", number(api.MaxInt+1))}, {cmd("", api.Arg{Kind: 6})}, {cmd("", api.Arg{Kind: api.ArgVar})}, {dot("")}, {dot("a b")}, {cmd("", api.Arg{Int: 1})}, {cmd("cat", make([]api.Arg, api.MaxArgs+1)...)}, slices.Repeat([]api.Cmd{cmd("len")}, api.MaxCmds+1)}
	return fine, wrong
}

func TestPipes(t *testing.T) {
	fine, wrong := pipes()
	for n, p := range append(fine, wrong...) {
		if pipe.May(p) != (n < len(fine)) {
			t.Fatalf("pipe.May of %s", shown(p))
		}
		for _, i := range []api.Item{hole(p...), assign("v", p...), call("m", p...), nest(api.ItemIf, nil, nil, p...), nest(api.ItemWith, of(text("a")), nil, p...), nest(api.ItemRange, nil, of(text("a")), p...)} {
			may(t, n < len(fine), of(i), of(text("a"), i), inLoop(i), of(nest(api.ItemIf, of(text("a")), of(text("b"), i), dot())))
		}
		may(t, false, of(api.Item{Text: "a", Pipe: p}), inLoop(api.Item{Kind: api.ItemBreak, Pipe: p}), inLoop(api.Item{Kind: api.ItemContinue, Pipe: p}))
	}
}

func TestNamesOfSets(t *testing.T) {
	for _, s := range []string{"a", "_", "Z_9", "if", "end", "true", "len", "null", times(api.MaxName, "v")} {
		may(t, true, of(assign(s, dot())), inLoop(assign(s, dot())))
		may(t, false, of(assign(s)))
	}
	for _, s := range []string{"", "9", "9a", "a.b", "a-b", ".", "-", "$a", "a b", " a", "é", "a\x00", "\xff", times(api.MaxName+1, "v"), times(api.MaxText, "v")} {
		may(t, false, of(assign(s, dot())), inLoop(assign(s, dot())), of(assign("a", dot()), assign(s, dot())))
	}
}

func TestNamesOfCalls(t *testing.T) {
	for _, name := range []string{"a", "a.b-c_9", "-", "9", times(api.MaxName, "n")} {
		for _, c := range []api.Item{call(name), call(name, dot())} {
			for _, items := range [][]api.Item{of(c), inLoop(c), of(nest(api.ItemIf, nil, of(text("a"), c), dot())), within(api.MaxBlocks, c, api.ItemWith)} {
				for _, ns := range [][]api.Named{{named(name, items...)}, {named("z", items...), named(name)}, {named(name), named("z", items...)}, {named("z", call("z")), named(name, items...), named("y", call("z"))}} {
					if !May(ns) {
						t.Errorf("P17.2: %s may not be", shown(ns))
					}
				}
				for _, ns := range [][]api.Named{{named("z", items...)}, {named("z"), named("y", items...)}, {named(name+"n", items...)}, {named(name[1:]+"z", items...)}, {named("z", items...), named(strings.ToUpper(name) + ".")}} {
					if May(ns) {
						t.Errorf("P17.2: %s may be", shown(ns))
					}
				}
			}
		}
	}
	for _, name := range []string{"", "M", "mm", "m ", " m", "m\x00", "é", "n", "\"m\"", times(api.MaxName, "m"), times(api.MaxText, "m")} {
		may(t, false, of(call(name)), of(call(name, dot())), of(call("m"), call(name)), inLoop(call(name)), of(nest(api.ItemWith, nil, of(call(name)), dot())))
	}
	// Each of a set calls each.
	var ns []api.Named
	for _, n := range titled("a", "b", "c", "d") {
		ns = append(ns, named(n.Name, call("a"), call("b"), call("c"), call("d")))
	}
	if !May(ns) || May(ns[1:]) || May(ns[:3]) {
		t.Error("P17.2: calls of each by each")
	}
}

// within gives an item within so many blocks of a Kind, in Then.
func within(n int, item api.Item, kind int) []api.Item {
	items := of(item)
	for range n {
		items = of(nest(kind, items, nil, dot()))
	}
	return items
}

// inElse gives an item within so many blocks of a Kind, in Else.
func inElse(n int, item api.Item, kind int) []api.Item {
	items := of(item)
	for range n {
		items = of(nest(kind, nil, items, dot()))
	}
	return items
}

func TestLeaves(t *testing.T) {
	for _, leave := range []api.Item{ends, goes} {
		one := of(leave)
		may(t, false, one, of(text("a"), leave), of(nest(api.ItemRange, nil, nil, dot()), leave), of(leave, nest(api.ItemRange, nil, nil, dot())), of(nest(api.ItemRange, nil, one, dot())), of(nest(api.ItemRange, one, one, dot())), of(nest(api.ItemRange, one, nil, dot()), leave),
			of(nest(api.ItemRange, nil, of(nest(api.ItemRange, nil, one, dot())), dot())), of(nest(api.ItemRange, nil, of(nest(api.ItemRange, one, nil, dot()), leave), dot())), of(nest(api.ItemIf, of(nest(api.ItemRange, nil, nil, dot()), leave), nil, dot())))
		may(t, true, of(nest(api.ItemRange, one, nil, dot())), of(nest(api.ItemRange, of(text("a"), leave, text("b"), leave), nil, dot())), of(nest(api.ItemRange, nil, of(nest(api.ItemRange, one, nil, dot())), dot())),
			of(nest(api.ItemRange, of(nest(api.ItemRange, nil, one, dot()), leave), nil, dot())), of(nest(api.ItemRange, of(nest(api.ItemRange, nil, of(nest(api.ItemRange, nil, one, dot())), dot())), nil, dot())))
		for _, kind := range []int{api.ItemIf, api.ItemWith} {
			for n := range api.MaxBlocks {
				for _, items := range [][]api.Item{within(n, leave, kind), inElse(n, leave, kind)} {
					may(t, true, of(nest(api.ItemRange, items, nil, dot())))
					may(t, false, items, of(nest(api.ItemRange, nil, items, dot())), of(nest(api.ItemRange, of(text("a")), items, dot())))
					if n < api.MaxBlocks-1 {
						may(t, true, of(nest(api.ItemRange, of(nest(api.ItemRange, nil, items, dot())), nil, dot())), of(nest(kind, of(nest(api.ItemRange, items, nil, dot())), nil, dot())), of(nest(kind, nil, of(nest(api.ItemRange, items, nil, dot())), dot())))
						may(t, false, of(nest(api.ItemRange, nil, of(nest(api.ItemRange, nil, items, dot())), dot())), of(nest(kind, nil, of(nest(api.ItemRange, nil, items, dot())), dot())))
					}
				}
			}
		}
	}
}

func TestBlocks(t *testing.T) {
	for _, kind := range []int{api.ItemIf, api.ItemWith, api.ItemRange} {
		for n := range 3 * api.MaxBlocks {
			want := n <= api.MaxBlocks
			may(t, want, within(n, text("a"), kind), inElse(n, hole(dot()), kind), deep(n, kind), append(deep(n, kind), deep(n, kind)...), append(deep(api.MaxBlocks, kind), inElse(n, text("a"), kind)...))
			// By turns in Then and in Else, with others beside them.
			items := of(text("a"))
			for i := range n {
				next := []int{api.ItemIf, api.ItemWith, api.ItemRange}[i%3]
				if i%2 == 0 {
					items = of(text("b"), nest(next, items, of(text("c")), dot()))
				} else {
					items = of(nest(next, of(text("d")), items, dot()), text("e"))
				}
			}
			may(t, want, items)
		}
	}
}

func TestHowManyItems(t *testing.T) {
	row := func(n int, item api.Item) []api.Item { return slices.Repeat(of(item), n) }
	const most = api.MaxPieces
	for _, item := range []api.Item{text("a"), hole(dot()), assign("v", dot()), call("m"), nest(api.ItemIf, nil, nil, dot())} {
		for _, n := range []int{most - 1, most} {
			may(t, true, row(n, item), of(nest(api.ItemRange, row(n-1, item), nil, dot())), of(nest(api.ItemRange, nil, row(n-1, item), dot())), of(nest(api.ItemWith, row(n/2-1, item), row(n/2, item), dot())))
		}
		for _, n := range []int{most + 1, most + 2, 2 * most, 100 * most} {
			may(t, false, row(n, item), of(nest(api.ItemRange, row(n-1, item), nil, dot())), of(nest(api.ItemRange, nil, row(n-1, item), dot())), of(nest(api.ItemWith, row(n/2, item), row(n-n/2-1, item), dot())), append(row(n-2, item), nest(api.ItemIf, of(item), nil, dot())), append(of(nest(api.ItemIf, nil, of(item), dot())), row(n-2, item)...))
		}
	}
	may(t, true, of(nest(api.ItemRange, row(most-1, ends), nil, dot())), of(nest(api.ItemRange, row(most/2, goes), row(most/2-1, text("a")), dot())), within(api.MaxBlocks-1, nest(api.ItemIf, row(most-api.MaxBlocks, text("a")), nil, dot()), api.ItemWith))
	may(t, false, of(nest(api.ItemRange, row(most, ends), nil, dot())), of(nest(api.ItemRange, row(most/2, goes), row(most/2, text("a")), dot())), within(api.MaxBlocks-1, nest(api.ItemIf, row(most-api.MaxBlocks+1, text("a")), nil, dot()), api.ItemWith))
	// Each template has a room of its own.
	ns := []api.Named{named("a", row(most, text("a"))...), named("b", nest(api.ItemIf, row(most-1, hole(dot())), nil, dot())), named("c", row(most, call("a"))...)}
	if !May(ns) {
		t.Error("P17.2: three templates of MaxPieces items each may not be")
	}
	for i := range ns {
		wrong := slices.Clone(ns)
		wrong[i].Items = append(of(hole(dot())), ns[i].Items...)
		if May(wrong) {
			t.Errorf("P17.2: template %d of MaxPieces items and one may be", i)
		}
	}
}

// TestEachTemplate: a wrong one at each place of a set.
func TestEachTemplate(t *testing.T) {
	for n := 1; n <= api.MaxSet; n++ {
		for at := range n {
			for _, wrong := range [][]api.Item{of(text("")), of(hole()), of(call("u")), of(ends), of(api.Item{Kind: 9}), within(api.MaxBlocks+1, text("a"), api.ItemIf)} {
				var ns []api.Named
				for _, title := range row(make([]string, n)...) {
					ns = append(ns, named(title.Name, text("a"), call("t0")))
				}
				if !May(ns) {
					t.Errorf("P17.2: %d templates may not be", n)
				}
				ns[at].Items = wrong
				if May(ns) {
					t.Errorf("P17.2: with %s at %d of %d", shown(wrong), at, n)
				}
			}
		}
	}
}
