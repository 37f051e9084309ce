package tree

import (
	"fmt"
	"math/rand"
	"reflect"
	"slices"
	"strconv"
	"strings"
	"sync"
	"testing"
	"time"

	"stole/api"
	"stole/tok"
)

func text(s string) api.Token { return api.Token{Kind: api.TokText, Text: s} }

func remark(s string) api.Token { return api.Token{Kind: api.TokComment, Text: s} }

// start gives a start tag; the names and values of its attributes stand in turn.
func start(name string, parts ...string) api.Token {
	return api.Token{Kind: api.TokStart, Name: name, Attrs: pairs(parts)}
}

func self(t api.Token) api.Token {
	t.Self = true
	return t
}

func end(name string) api.Token { return api.Token{Kind: api.TokEnd, Name: name} }

func pairs(parts []string) []api.Attr {
	var attrs []api.Attr
	for i := 0; i < len(parts); i += 2 {
		attrs = append(attrs, api.Attr{Name: parts[i], Value: parts[i+1]})
	}
	return attrs
}

func rootNode() api.Node { return api.Node{Kind: api.NodeRoot, Parent: -1} }

func textNode(parent int, s string) api.Node {
	return api.Node{Kind: api.NodeText, Text: s, Parent: parent}
}

func remarkNode(parent int, s string) api.Node {
	return api.Node{Kind: api.NodeComment, Text: s, Parent: parent}
}

func elemNode(parent int, name string, parts ...string) api.Node {
	return api.Node{Kind: api.NodeElem, Name: name, Attrs: pairs(parts), Parent: parent}
}

func row(ts ...api.Token) []api.Token { return ts }

// same tells whether two trees are one; an empty list and nil are.
func same(a, b []api.Node) bool {
	return slices.EqualFunc(a, b, func(x, y api.Node) bool {
		return x.Kind == y.Kind && x.Name == y.Name && x.Text == y.Text && x.Parent == y.Parent && slices.Equal(x.Attrs, y.Attrs)
	})
}

// check holds Build of tokens against the nodes that are wanted behind the root.
func check(t *testing.T, ts []api.Token, want ...api.Node) {
	t.Helper()
	want = append([]api.Node{rootNode()}, want...)
	if got, e := Build(ts); e != api.OK || !same(got, want) {
		t.Errorf("P7.1: Build(%+v) = %+v, %d, want %+v", ts, got, e, want)
	}
}

// refuse holds Build of tokens against an error with nothing beside it.
func refuse(t *testing.T, what string, ts []api.Token, want api.Errno) {
	t.Helper()
	if got, e := Build(ts); len(got) != 0 || e != want {
		t.Errorf("P7.1: %s: %d nodes, %d, want none, %d", what, len(got), e, want)
	}
}

func TestNoTokens(t *testing.T) {
	check(t, nil)
	check(t, []api.Token{})
	check(t, make([]api.Token, 0, 8))
}

func TestEachKind(t *testing.T) {
	check(t, row(text("a")), textNode(0, "a"))
	check(t, row(remark("a")), remarkNode(0, "a"))
	check(t, row(start("a")), elemNode(0, "a"))
	check(t, row(end("a")))
	check(t, row(start("a"), text("x"), remark("y"), start("b"), end("b"), end("a")),
		elemNode(0, "a"), textNode(1, "x"), remarkNode(1, "y"), elemNode(1, "b"))
}

func TestTexts(t *testing.T) {
	check(t, row(text("")))
	check(t, row(text(""), text(""), text("")))
	check(t, row(start("a"), text(""), end("a"), text("")), elemNode(0, "a"))
	check(t, row(text("a"), text("b"), text("c")), textNode(0, "abc"))
	check(t, row(text(""), text("a"), text(""), text("b"), text("")), textNode(0, "ab"))
	check(t, row(text("a"), end("b"), text("c")), textNode(0, "ac"))
	check(t, row(text("a"), end("br"), text(""), end("b"), text("c")), textNode(0, "ac"))
	check(t, row(start("p"), text("a"), end("b"), text("c"), end("p"), end("p"), text("d"), end("p"), text("e")),
		elemNode(0, "p"), textNode(1, "ac"), textNode(0, "de"))
	check(t, row(text("a"), remark("b"), text("c")), textNode(0, "a"), remarkNode(0, "b"), textNode(0, "c"))
	check(t, row(text("a"), remark(""), text("c")), textNode(0, "a"), remarkNode(0, ""), textNode(0, "c"))
	check(t, row(text("a"), start("br"), text("c")), textNode(0, "a"), elemNode(0, "br"), textNode(0, "c"))
	// The last node is a text, but of another Parent.
	check(t, row(text("a"), start("p"), text("b"), end("p"), text("c")),
		textNode(0, "a"), elemNode(0, "p"), textNode(2, "b"), textNode(0, "c"))
	check(t, row(start("p"), start("q"), text("a"), end("q"), text("b"), end("p"), text("c"), text("d")),
		elemNode(0, "p"), elemNode(1, "q"), textNode(2, "a"), textNode(1, "b"), textNode(0, "cd"))
	// The last text of that Parent is not the last node.
	check(t, row(text("a"), start("p"), end("p"), text("b")), textNode(0, "a"), elemNode(0, "p"), textNode(0, "b"))
	check(t, row(text("<&lt;\x00"), text("\xff\r\n")), textNode(0, "<&lt;\x00\xff\r\n"))
}

func TestComments(t *testing.T) {
	check(t, row(remark("")), remarkNode(0, ""))
	check(t, row(remark(""), remark("a"), remark("a"), remark("")), remarkNode(0, ""), remarkNode(0, "a"), remarkNode(0, "a"), remarkNode(0, ""))
	check(t, row(start("p"), remark("a"), text("x"), remark("b"), end("p"), remark("c")),
		elemNode(0, "p"), remarkNode(1, "a"), textNode(1, "x"), remarkNode(1, "b"), remarkNode(0, "c"))
	check(t, row(remark("-->\x00\xff&amp;")), remarkNode(0, "-->\x00\xff&amp;"))
}

func TestElements(t *testing.T) {
	check(t, row(start("a"), start("b"), start("c")), elemNode(0, "a"), elemNode(1, "b"), elemNode(2, "c"))
	check(t, row(start("a", "x", "1", "y", "", "X", "1"), text("t")), elemNode(0, "a", "x", "1", "y", "", "X", "1"), textNode(1, "t"))
	check(t, row(start("a", "x", "1"), start("a", "x", "2"), start("br", "x", "3")), elemNode(0, "a", "x", "1"), elemNode(1, "a", "x", "2"), elemNode(2, "br", "x", "3"))
	for _, name := range strings.Fields("br img input hr meta link") {
		check(t, row(start(name), text("x")), elemNode(0, name), textNode(0, "x"))
		check(t, row(self(start(name, "a", "b")), start("p"), start(name), text("x")),
			elemNode(0, name, "a", "b"), elemNode(0, "p"), elemNode(2, name), textNode(2, "x"))
	}
	// Of each other kind an element is open, and Self says nothing of it; names are known by their bytes.
	for _, name := range strings.Fields("p title textarea script style BR Img brr b href \xff") {
		check(t, row(start(name), text("x")), elemNode(0, name), textNode(1, "x"))
		check(t, row(self(start(name, "a", "b")), text("x")), elemNode(0, name, "a", "b"), textNode(1, "x"))
		check(t, row(self(start(name)), start(name), end(name), text("x")), elemNode(0, name), elemNode(1, name), textNode(1, "x"))
	}
	long := strings.Repeat("n", 2*api.MaxName)
	check(t, row(start(long), start(long+"x"), end(long), text("x")), elemNode(0, long), elemNode(1, long+"x"), textNode(0, "x"))
}

func TestEnds(t *testing.T) {
	// Of one that is open.
	check(t, row(start("a"), end("a"), text("x")), elemNode(0, "a"), textNode(0, "x"))
	check(t, row(start("a"), end("a"), start("a"), end("a"), end("a"), text("x")), elemNode(0, "a"), elemNode(0, "a"), textNode(0, "x"))
	// Of one that is open twice.
	check(t, row(start("a"), start("a"), end("a"), text("x")), elemNode(0, "a"), elemNode(1, "a"), textNode(1, "x"))
	check(t, row(start("a"), start("b"), start("a"), start("c"), end("a"), text("x"), end("a"), text("y")),
		elemNode(0, "a"), elemNode(1, "b"), elemNode(2, "a"), elemNode(3, "c"), textNode(2, "x"), textNode(0, "y"))
	// Of one with others open within it.
	check(t, row(start("a"), start("b"), start("c"), end("b"), text("x"), end("c"), text("y"), end("a"), end("b"), text("z")),
		elemNode(0, "a"), elemNode(1, "b"), elemNode(2, "c"), textNode(1, "xy"), textNode(0, "z"))
	check(t, row(start("a"), start("b"), start("c"), end("a"), text("x"), end("b"), end("c"), start("d"), end("b"), text("y")),
		elemNode(0, "a"), elemNode(1, "b"), elemNode(2, "c"), textNode(0, "x"), elemNode(0, "d"), textNode(5, "y"))
	// Of one that is not open.
	check(t, row(end("a"), end("b"), text("x"), end("root"), text("y")), textNode(0, "xy"))
	check(t, row(start("a"), end("A"), end("aa"), end("b"), text("x")), elemNode(0, "a"), textNode(1, "x"))
	// Of a void one.
	check(t, row(start("br"), end("br"), text("x")), elemNode(0, "br"), textNode(0, "x"))
	check(t, row(start("a"), start("br"), end("br"), text("x"), end("br"), text("y")), elemNode(0, "a"), elemNode(1, "br"), textNode(1, "xy"))
}

func TestMaxNest(t *testing.T) {
	many := func(n int) []api.Token {
		var ts []api.Token
		for i := range n {
			ts = append(ts, start("e"+strconv.Itoa(i)))
		}
		return ts
	}
	for n := range api.MaxNest + 4 {
		var want []api.Node
		for i := range n {
			want = append(want, elemNode(min(i, api.MaxNest), "e"+strconv.Itoa(i)))
		}
		inner := min(n, api.MaxNest)
		check(t, append(many(n), text("x")), append(want, textNode(inner, "x"))...)
		check(t, append(many(n), remark("x"), start("br"), text("y")), append(want, remarkNode(inner, "x"), elemNode(inner, "br"), textNode(inner, "y"))...)
		// An end of one that was never open closes nothing, one of the innermost open makes room for one more.
		if n > api.MaxNest {
			check(t, append(many(n), end("e32"), end("e33"), text("x")), append(want, textNode(inner, "x"))...)
			check(t, append(many(n), end("e31"), start("p"), start("q"), text("x")),
				append(want, elemNode(31, "p"), elemNode(n+1, "q"), textNode(n+1, "x"))...)
			check(t, append(many(n), end("e0"), start("p"), text("x")), append(want, elemNode(0, "p"), textNode(n+1, "x"))...)
		}
	}
	// Void ones take no room.
	ns, _ := Build(append(many(31), start("br"), start("br"), start("p"), start("q"), text("x")))
	if want := []api.Node{elemNode(31, "br"), elemNode(31, "br"), elemNode(31, "p"), elemNode(34, "q"), textNode(34, "x")}; len(ns) < 37 || !same(ns[32:], want) {
		t.Errorf("P7.1: void elements within 31 others: %+v, want %+v at the end", ns, want)
	}
	// Ends of one name, one by one, of more starts than are open.
	ts := slices.Repeat(row(start("p")), 40)
	for n := range 41 {
		ns, e := Build(append(slices.Clone(ts), append(slices.Repeat(row(end("p")), n), text("x"))...))
		if want := max(0, api.MaxNest-n); e != api.OK || len(ns) != 42 || ns[41].Parent != want {
			t.Errorf("P7.1: 40 starts, %d ends: %d, want the Parent %d", n, e, want)
		}
	}
}

func TestMaxNodes(t *testing.T) {
	for what, two := range map[string][]api.Token{
		"elements that are open": {start("p"), start("p")},
		"void elements":          {start("br"), start("br")},
		"elements that end":      {start("p"), end("p"), start("q"), end("q")},
		"comments":               {remark(""), remark("c")},
		"texts":                  {text("x"), start("br")},
	} {
		// The root and 2 * 2047 nodes are one less than MaxNodes.
		ts := slices.Repeat(two, (api.MaxNodes-2)/2)
		if ns, e := Build(ts); e != api.OK || len(ns) != api.MaxNodes-1 {
			t.Errorf("P7.1: %s: %d nodes, %d", what, len(ns), e)
		}
		for _, last := range row(start("p"), start("br"), remark(""), text("x")) {
			full := append(slices.Clone(ts), last)
			ns, e := Build(full)
			if e != api.OK || len(ns) != api.MaxNodes {
				t.Errorf("P7.1: %s and one more: %d nodes, %d", what, len(ns), e)
			}
			// What makes no node may still come.
			if ns, e = Build(append(slices.Clone(full), text(""), end("p"), end("br"), end("q"), text(""))); e != api.OK || len(ns) != api.MaxNodes {
				t.Errorf("P7.1: %s, one more and what makes no node: %d nodes, %d", what, len(ns), e)
			}
			refuse(t, what+" and an element too many", append(slices.Clone(full), start("p")), api.ErrTreeFull)
			refuse(t, what+" and a void element too many", append(slices.Clone(full), start("br")), api.ErrTreeFull)
			refuse(t, what+" and a comment too many", append(slices.Clone(full), remark("")), api.ErrTreeFull)
			refuse(t, what+" and more than one too many", append(slices.Clone(full), slices.Repeat(two, 9)...), api.ErrTreeFull)
			if last.Kind != api.TokText {
				refuse(t, what+" and a text too many", append(slices.Clone(full), text("x")), api.ErrTreeFull)
			}
		}
	}
}

// TestTextsOfAFullTree: a text that goes into the last node makes none.
func TestTextsOfAFullTree(t *testing.T) {
	full := append(slices.Repeat(row(start("br")), api.MaxNodes-2), text("a"), text("b"), end("br"), text("c"))
	ns, e := Build(full)
	if e != api.OK || len(ns) != api.MaxNodes || !reflect.DeepEqual(ns[api.MaxNodes-1], textNode(0, "abc")) {
		t.Errorf("P7.1: a full tree whose last is a text: %d nodes, %d", len(ns), e)
	}
	refuse(t, "a comment behind it", append(slices.Clone(full), remark("")), api.ErrTreeFull)
	// Of another Parent it makes one.
	full = append(slices.Repeat(row(start("br")), api.MaxNodes-3), start("p"), text("a"), end("p"))
	if ns, e := Build(full); e != api.OK || len(ns) != api.MaxNodes {
		t.Errorf("P7.1: a full tree: %d nodes, %d", len(ns), e)
	}
	refuse(t, "a text of another Parent behind it", append(slices.Clone(full), text("b")), api.ErrTreeFull)
	if _, e := Build(append(slices.Clone(full), text(""))); e != api.OK {
		t.Errorf("P7.1: an empty text behind a full tree: %d", e)
	}
}

// numbered gives n attributes with names of their own.
func numbered(n int) []api.Attr {
	var attrs []api.Attr
	for i := range n {
		attrs = append(attrs, api.Attr{Name: "a" + strconv.Itoa(i), Value: "v"})
	}
	return attrs
}

// withName gives n attributes of which the one at i has this name.
func withName(n, i int, name string) []api.Attr {
	attrs := numbered(n)
	attrs[i].Name = name
	return attrs
}

// wrong gives tokens that may not be, each by one part of the document's words alone.
func wrong() map[string]api.Token {
	x := pairs([]string{"x", "y"})
	out := map[string]api.Token{
		"a start without a name":      {Kind: api.TokStart},
		"an end without a name":       {Kind: api.TokEnd},
		"a start with a text":         {Kind: api.TokStart, Name: "p", Text: "x"},
		"an end with a text":          {Kind: api.TokEnd, Name: "p", Text: "x"},
		"an end with an attribute":    {Kind: api.TokEnd, Name: "p", Attrs: x},
		"an end with an empty one":    {Kind: api.TokEnd, Name: "p", Attrs: make([]api.Attr, 1)},
		"an end that is self":         {Kind: api.TokEnd, Name: "p", Self: true},
		"a text with a name":          {Kind: api.TokText, Name: "p", Text: "x"},
		"an empty text with a name":   {Kind: api.TokText, Name: "p"},
		"a text with an attribute":    {Kind: api.TokText, Text: "x", Attrs: x},
		"a text with an empty one":    {Kind: api.TokText, Attrs: make([]api.Attr, 1)},
		"a text that is self":         {Kind: api.TokText, Text: "x", Self: true},
		"a comment with a name":       {Kind: api.TokComment, Name: "p", Text: "x"},
		"a comment with an attribute": {Kind: api.TokComment, Text: "x", Attrs: x},
		"a comment with an empty one": {Kind: api.TokComment, Attrs: make([]api.Attr, 1)},
		"a comment that is self":      {Kind: api.TokComment, Text: "x", Self: true},
		"MaxAttrs and one more":       {Kind: api.TokStart, Name: "p", Attrs: numbered(api.MaxAttrs + 1)},
		"as many attributes twice":    {Kind: api.TokStart, Name: "br", Attrs: numbered(2 * api.MaxAttrs), Self: true},
		"only an empty name":          {Kind: api.TokStart, Name: "p", Attrs: make([]api.Attr, 1)},
		"an empty name and a value":   {Kind: api.TokStart, Name: "p", Attrs: pairs([]string{"", "v"})},
		"two alike, values unlike":    {Kind: api.TokStart, Name: "p", Attrs: pairs([]string{"x", "1", "x", "2"})},
	}
	for _, kind := range []int{-1, 4, 5, -4, 1 << 40, -1 << 63, 1<<63 - 1, 256, 1 << 32} {
		out[fmt.Sprint("Kind ", kind)] = api.Token{Kind: kind}
		out[fmt.Sprint("Kind ", kind, " as a start")] = api.Token{Kind: kind, Name: "p", Attrs: x}
		out[fmt.Sprint("Kind ", kind, " as a text")] = api.Token{Kind: kind, Text: "x"}
	}
	for _, i := range []int{0, 1, 15, api.MaxAttrs - 1} {
		out[fmt.Sprint("an empty name at ", i)] = api.Token{Kind: api.TokStart, Name: "p", Attrs: withName(api.MaxAttrs, i, "")}
		for k := range i {
			out[fmt.Sprint("alike at ", k, " and ", i)] = api.Token{Kind: api.TokStart, Name: "p", Attrs: withName(api.MaxAttrs, i, "a"+strconv.Itoa(k))}
		}
	}
	return out
}

func TestTokensThatMayNotBe(t *testing.T) {
	fine := row(text("x"), start("p", "a", "b"), remark(""), end("q"), text(""), start("br"), end("p"))
	full := slices.Repeat(row(start("br")), api.MaxNodes)
	for what, x := range wrong() {
		refuse(t, what+", alone", row(x), api.ErrTreeForm)
		refuse(t, what+", twice", row(x, x), api.ErrTreeForm)
		for i := range len(fine) + 1 {
			refuse(t, fmt.Sprint(what, ", at ", i), slices.Insert(slices.Clone(fine), i, x), api.ErrTreeForm)
		}
		refuse(t, what+", ahead of too many nodes", append(row(x), full...), api.ErrTreeForm)
		refuse(t, what+", behind too many nodes", append(slices.Clone(full), x), api.ErrTreeForm)
		refuse(t, what+", among too many nodes", append(append(slices.Clone(full), x), full...), api.ErrTreeForm)
	}
	refuse(t, "too many nodes alone", full, api.ErrTreeFull)
}

// TestTokensThatMayBe: what is just within the bounds.
func TestTokensThatMayBe(t *testing.T) {
	for n := range api.MaxAttrs + 1 {
		ts := row(api.Token{Kind: api.TokStart, Name: "p", Attrs: numbered(n)})
		check(t, ts, api.Node{Kind: api.NodeElem, Name: "p", Attrs: numbered(n)})
	}
	check(t, row(start("p", "x", "", "X", "", "xx", "", " ", "")), elemNode(0, "p", "x", "", "X", "", "xx", "", " ", ""))
	check(t, row(start("p", "x", "v", "y", "v"), start("p", "x", "v")), elemNode(0, "p", "x", "v", "y", "v"), elemNode(1, "p", "x", "v"))
	// An empty list of attributes is none.
	none := make([]api.Attr, 0, 4)
	check(t, row(api.Token{Kind: api.TokText, Text: "x", Attrs: none}, api.Token{Kind: api.TokComment, Attrs: none},
		api.Token{Kind: api.TokStart, Name: "p", Attrs: none}, api.Token{Kind: api.TokEnd, Name: "p", Attrs: none}),
		textNode(0, "x"), remarkNode(0, ""), elemNode(0, "p"))
	long := strings.Repeat("x", 1<<20)
	check(t, row(text(long), text(long), remark(long), start(long, long, long)), textNode(0, long+long), remarkNode(0, long), elemNode(0, long, long, long))
}

// roomy gives tokens with spare room in each list, one list of attributes at three places.
func roomy() []api.Token {
	ts := make([]api.Token, 0, 32)
	attrs := append(make([]api.Attr, 0, 8), api.Attr{Name: "a", Value: "1"}, api.Attr{Name: "b", Value: "2"})
	none := make([]api.Attr, 0, 8)
	one := api.Token{Kind: api.TokStart, Name: "p", Attrs: attrs}
	two := api.Token{Kind: api.TokStart, Name: "br", Attrs: attrs, Self: true}
	return append(ts, one, text("x"), text("y"), two, one, end("p"), text("z"), api.Token{Kind: api.TokStart, Name: "q", Attrs: none}, api.Token{Kind: api.TokText, Text: "t", Attrs: none})
}

// spread tells all that tokens hold, their spare room too.
func spread(ts []api.Token) string {
	var out strings.Builder
	for _, t := range ts[:cap(ts)] {
		fmt.Fprintf(&out, "%+v %+v %d\n", t, t.Attrs[:cap(t.Attrs)], len(t.Attrs))
	}
	return out.String()
}

// spoil overwrites each list of a tree, its spare room too.
func spoil(ns []api.Node) {
	for i, n := range ns {
		spoilAttrs(n.Attrs)
		ns[i] = api.Node{Kind: 9, Name: "spoilt", Text: "spoilt", Parent: 9}
	}
	spare := ns[len(ns):cap(ns)]
	for i := range spare {
		spare[i].Name = "spoilt"
	}
}

func spoilAttrs(attrs []api.Attr) {
	attrs = attrs[:cap(attrs)]
	for i := range attrs {
		attrs[i] = api.Attr{Name: "spoilt", Value: "spoilt"}
	}
}

func TestTokensStay(t *testing.T) {
	ts := roomy()
	before := spread(ts)
	ns, e := Build(ts)
	if e != api.OK || spread(ts) != before {
		t.Error("R4: tokens are changed")
	}
	spoil(ns)
	if spread(ts) != before {
		t.Error("R4: an answer shares memory with the tokens")
	}
	// Beside an error neither.
	for _, x := range row(api.Token{Kind: 9}, end("")) {
		ts := append(roomy(), x)
		before := spread(ts)
		if _, e := Build(ts); e != api.ErrTreeForm || spread(ts) != before {
			t.Error("R4: tokens that may not be are changed")
		}
	}
	full := slices.Repeat(roomy(), 1000)
	before = spread(full)
	if _, e := Build(full); e != api.ErrTreeFull || spread(full) != before {
		t.Error("R4: too many tokens are changed")
	}
}

func TestAnswersShareNothing(t *testing.T) {
	ts := roomy()
	want, _ := Build(roomy())
	first, _ := Build(ts)
	second, _ := Build(ts)
	// Lists of one answer.
	for i := range first {
		fresh, _ := Build(ts)
		spoilAttrs(fresh[i].Attrs)
		for k := range fresh {
			if k != i && !slices.Equal(fresh[k].Attrs, want[k].Attrs) {
				t.Errorf("R4: the nodes %d and %d share memory", i, k)
			}
		}
	}
	spoil(first)
	if !same(second, want) {
		t.Error("R4: two answers share memory")
	}
	// What was handed in may be written over.
	for i := range ts[:cap(ts)] {
		spoilAttrs(ts[:cap(ts)][i].Attrs)
		ts[:cap(ts)][i] = remark("spoilt")
	}
	if !same(second, want) {
		t.Error("R4: an answer hangs on the tokens")
	}
}

func TestAtOneTime(t *testing.T) {
	ts := slices.Repeat(roomy(), 100)
	want, _ := Build(ts)
	var all sync.WaitGroup
	for range 8 {
		all.Go(func() {
			for range 20 {
				if got, e := Build(ts); e != api.OK || !same(got, want) {
					t.Error("R5: answers differ between goroutines")
				}
			}
		})
	}
	all.Wait()
}

// TestTimeOfTokens: many tokens are read in a time that grows with their number, not with its square.
func TestTimeOfTokens(t *testing.T) {
	const many = 1 << 20
	began := time.Now()
	ns, e := Build(slices.Repeat(row(text("x")), many))
	if e != api.OK || len(ns) != 2 || len(ns[1].Text) != many {
		t.Errorf("P7.1: many small texts: %d nodes, %d", len(ns), e)
	}
	deep := append(slices.Repeat(row(start("p")), api.MaxNest), slices.Repeat(row(end("q")), many)...)
	if ns, e := Build(deep); e != api.OK || len(ns) != api.MaxNest+1 {
		t.Errorf("P7.1: many ends: %d nodes, %d", len(ns), e)
	}
	refuse(t, "many elements", slices.Repeat(row(start("p")), many), api.ErrTreeFull)
	attrs := slices.Repeat(row(api.Token{Kind: api.TokStart, Name: "p", Attrs: numbered(api.MaxAttrs)}), api.MaxNodes-1)
	if ns, e := Build(attrs); e != api.OK || len(ns) != api.MaxNodes {
		t.Errorf("P7.1: many attributes: %d nodes, %d", len(ns), e)
	}
	if took := time.Since(began); took > 30*time.Second {
		t.Errorf("many tokens took %v", took)
	}
}

// slowly is a second reckoning of Build for tokens that may be: it marks each node as open or not, and looks all of them through.
func slowly(ts []api.Token) []api.Node {
	ns, isOpen := []api.Node{rootNode()}, []bool{true}
	last := func(is func(int) bool) int {
		for i := len(ns) - 1; i >= 0; i-- {
			if isOpen[i] && is(i) {
				return i
			}
		}
		return -1
	}
	for _, t := range ts {
		parent := last(func(int) bool { return true })
		elems := 0
		for i, n := range ns {
			if isOpen[i] && n.Kind == api.NodeElem {
				elems++
			}
		}
		switch t.Kind {
		case api.TokText:
			if k := len(ns) - 1; t.Text != "" && ns[k].Kind == api.NodeText && ns[k].Parent == parent {
				ns[k].Text += t.Text
			} else if t.Text != "" {
				ns, isOpen = append(ns, textNode(parent, t.Text)), append(isOpen, false)
			}
		case api.TokComment:
			ns, isOpen = append(ns, remarkNode(parent, t.Text)), append(isOpen, false)
		case api.TokStart:
			isVoid := slices.Contains([]string{"br", "img", "input", "hr", "meta", "link"}, t.Name)
			ns = append(ns, api.Node{Kind: api.NodeElem, Name: t.Name, Attrs: t.Attrs, Parent: parent})
			isOpen = append(isOpen, !isVoid && elems < 32)
		case api.TokEnd:
			if k := last(func(i int) bool { return ns[i].Kind == api.NodeElem && ns[i].Name == t.Name }); k > 0 {
				for i := k; i < len(ns); i++ {
					isOpen[i] = false
				}
			}
		}
	}
	return ns
}

func TestTreesOfRows(t *testing.T) {
	parts := row(text("x"), text(""), remark("c"), start("a"), self(start("b")), start("br"), end("a"), end("b"), end("br"))
	var grow func(ts []api.Token, left int)
	grow = func(ts []api.Token, left int) {
		if got, e := Build(ts); e != api.OK || !same(got, slowly(ts)) {
			t.Fatalf("P7.1: Build(%+v) = %+v, %d, want %+v", ts, got, e, slowly(ts))
		}
		if left == 0 {
			return
		}
		for _, part := range parts {
			grow(append(slices.Clip(ts), part), left-1)
		}
	}
	grow(nil, 5)
}

func TestTreesOfChance(t *testing.T) {
	r := rand.New(rand.NewSource(7))
	names := strings.Fields("a b c d p script style title br hr BR")
	for range 4000 {
		var ts []api.Token
		// More starts than ends, so that MaxNest is met, too.
		ends := r.Intn(5)
		for range r.Intn(200) {
			name := names[r.Intn(len(names))]
			switch k := r.Intn(8 + ends); {
			case k < 1:
				ts = append(ts, remark(name))
			case k < 3:
				ts = append(ts, text(strings.Repeat("x", r.Intn(3))))
			case k < 8:
				ts = append(ts, api.Token{Kind: api.TokStart, Name: name, Attrs: numbered(r.Intn(3)), Self: r.Intn(2) == 0})
			default:
				ts = append(ts, end(name))
			}
		}
		if got, e := Build(ts); e != api.OK || !same(got, slowly(ts)) {
			t.Fatalf("P7.1: Build(%+v) = %+v, %d, want %+v", ts, got, e, slowly(ts))
		}
	}
}

// TestTokensOfPages: the tokens of each page may be.
func TestTokensOfPages(t *testing.T) {
	r := rand.New(rand.NewSource(11))
	parts := strings.Split("<p|<br|</p|</a|<a|>|/>| x| y='1'| x=2| =|<!--|-->|<!|<script>|</script>|&lt;|t|<|/|\"", "|")
	for range 20000 {
		page := ""
		for range r.Intn(40) {
			page += parts[r.Intn(len(parts))]
		}
		ts, _ := tok.Tokens(page)
		if got, e := Build(ts); e != api.OK || !same(got, slowly(ts)) {
			t.Fatalf("P7.1: of the page %q: %+v, %d, want %+v", page, got, e, slowly(ts))
		}
	}
}

func BenchmarkBuild(b *testing.B) {
	ts := slices.Repeat(roomy(), 600)
	for range b.N {
		Build(ts)
	}
}
