package page

import (
	"fmt"
	"math/rand"
	"slices"
	"strconv"
	"strings"
	"sync"
	"testing"
	"time"

	"stole/api"
	"stole/tok"
	"stole/tree"
)

func root() api.Node { return api.Node{Kind: api.NodeRoot, Parent: -1} }

func text(parent int, s string) api.Node {
	return api.Node{Kind: api.NodeText, Text: s, Parent: parent}
}

func remark(parent int, s string) api.Node {
	return api.Node{Kind: api.NodeComment, Text: s, Parent: parent}
}

// elem gives an element with attributes of these names; their values tell nothing.
func elem(parent int, name string, attrs ...string) api.Node {
	n := api.Node{Kind: api.NodeElem, Name: name, Parent: parent}
	for _, a := range attrs {
		n.Attrs = append(n.Attrs, api.Attr{Name: a, Value: "value of " + a})
	}
	return n
}

// rooted gives nodes behind a root.
func rooted(ns ...api.Node) []api.Node { return append([]api.Node{root()}, ns...) }

// same tells whether two trees are one; an empty list and nil are.
func same(a, b []api.Node) bool {
	return slices.EqualFunc(a, b, func(x, y api.Node) bool {
		return x.Kind == y.Kind && x.Name == y.Name && x.Text == y.Text && x.Parent == y.Parent && slices.Equal(x.Attrs, y.Attrs)
	})
}

// checkPage holds Parse of a page against the nodes that are wanted behind the root.
func checkPage(t *testing.T, page string, want ...api.Node) {
	t.Helper()
	if got, e := Parse(page); e != api.OK || !same(got, rooted(want...)) {
		t.Errorf("P8.1: Parse(%q) = %+v, %d, want %+v", page, got, e, rooted(want...))
	}
}

// refusePage holds Parse of a page against an error with no nodes beside it.
func refusePage(t *testing.T, what, page string, want api.Errno) {
	t.Helper()
	if got, e := Parse(page); len(got) != 0 || e != want {
		t.Errorf("P8.1: %s: %d nodes, %d, want none, %d", what, len(got), e, want)
	}
}

// check holds Skeleton and Texts of nodes against what is wanted.
func check(t *testing.T, ns []api.Node, skeleton string, texts ...string) {
	t.Helper()
	if got, e := Skeleton(ns); got != skeleton || e != api.OK {
		t.Errorf("P8.2: Skeleton(%+v) = %q, %d, want %q", ns, got, e, skeleton)
	}
	if got, e := Texts(ns); !slices.Equal(got, texts) || e != api.OK {
		t.Errorf("P8.2: Texts(%+v) = %q, %d, want %q", ns, got, e, texts)
	}
}

// refuse holds Skeleton and Texts of nodes against ErrPageForm with nothing beside it.
func refuse(t *testing.T, what string, ns []api.Node) {
	t.Helper()
	if got, e := Skeleton(ns); got != "" || e != api.ErrPageForm {
		t.Errorf("P8.2: Skeleton: %s: %q, %d", what, got, e)
	}
	if got, e := Texts(ns); len(got) != 0 || e != api.ErrPageForm {
		t.Errorf("P8.2: Texts: %s: %q, %d", what, got, e)
	}
}

func TestParse(t *testing.T) {
	checkPage(t, "")
	checkPage(t, "a", text(0, "a"))
	checkPage(t, "<p>", elem(0, "p"))
	checkPage(t, "</p>")
	checkPage(t, "<!--a-->", remark(0, "a"))
	checkPage(t, "<!a>", remark(0, "a"))
	checkPage(t, "<br/>", elem(0, "br"))
	checkPage(t, "a&lt;b\r\nc", text(0, "a<b\nc"))
	checkPage(t, "a<P ID='1 &amp; 2' x>b<br>c<!--d-->e</p>f<!---->",
		text(0, "a"), api.Node{Kind: api.NodeElem, Name: "p", Attrs: []api.Attr{{Name: "id", Value: "1 & 2"}, {Name: "x"}}},
		text(2, "b"), elem(2, "br"), text(2, "c"), remark(2, "d"), text(2, "e"), text(0, "f"), remark(0, ""))
	checkPage(t, "<script>a<b>&lt;</script><title>&lt;<p></title>x",
		elem(0, "script"), text(1, "a<b>&lt;"), elem(0, "title"), text(3, "<<p>"), text(0, "x"))
	// What has not ended with the page is nothing, a `<` that it ends with is text.
	checkPage(t, "a<p b='", text(0, "a"))
	checkPage(t, "a<!--b", text(0, "a"))
	checkPage(t, "a</q>b<", text(0, "ab<"))
}

func TestPagesTooLong(t *testing.T) {
	long := strings.Repeat("x", api.MaxText)
	checkPage(t, long, text(0, long))
	refusePage(t, "one byte more", long+"x", api.ErrTokLong)
	refusePage(t, "many bytes more", strings.Repeat(long, 20), api.ErrTokLong)
	// Two bytes that are read as one are two, and so are bytes that come to nothing.
	checkPage(t, strings.Repeat("\r\n", api.MaxText/2), text(0, strings.Repeat("\n", api.MaxText/2)))
	refusePage(t, "ends of lines", strings.Repeat("\r\n", api.MaxText/2)+"\n", api.ErrTokLong)
	checkPage(t, long[:api.MaxText-4]+"</p>", text(0, long[:api.MaxText-4]))
	refusePage(t, "an end behind it", long[:api.MaxText-3]+"</p>", api.ErrTokLong)
	// Too long is told ahead of too many nodes.
	refusePage(t, "too long and too many nodes", strings.Repeat("<br>", api.MaxText/4)+"x", api.ErrTokLong)
}

func TestPagesTooFull(t *testing.T) {
	for what, one := range map[string]string{
		"void elements": "<br>", "open elements": "<p>", "elements that end": "<p></p>", "comments": "<!>", "long comments": "<!--c-->",
	} {
		full := strings.Repeat(one, api.MaxNodes-1)
		ns, e := Parse(full)
		if e != api.OK || len(ns) != api.MaxNodes {
			t.Errorf("P8.1: %s: %d nodes, %d", what, len(ns), e)
		}
		if ns, e := Parse(full + "</p></q>"); e != api.OK || len(ns) != api.MaxNodes {
			t.Errorf("P8.1: %s and ends: %d nodes, %d", what, len(ns), e)
		}
		for _, more := range []string{"<br>", "<p>", "x", "<!>", "x<br>y"} {
			refusePage(t, what+" and "+more, full+more, api.ErrTreeFull)
		}
	}
	// The text that fills the tree may be long.
	ns, e := Parse(strings.Repeat("<br>", api.MaxNodes-2) + strings.Repeat("x", 4096))
	if e != api.OK || len(ns) != api.MaxNodes || len(ns[api.MaxNodes-1].Text) != 4096 {
		t.Errorf("P8.1: elements and a text: %d nodes, %d", len(ns), e)
	}
}

// TestPagesOfChance: Parse is Build of Tokens, and what it gives may be.
func TestPagesOfChance(t *testing.T) {
	r := rand.New(rand.NewSource(8))
	parts := strings.Split("<p|<br|</p|</a|<a|>|/>| x| y='1'| x=2| =|<!--|-->|<!|<script>|</script>|&lt;|t|<|/|\"|\n|<title>|</title>", "|")
	for range 20000 {
		page := ""
		for range r.Intn(40) {
			page += parts[r.Intn(len(parts))]
		}
		ts, _ := tok.Tokens(page)
		want, _ := tree.Build(ts)
		got, e := Parse(page)
		if e != api.OK || !same(got, want) {
			t.Fatalf("P8.1: Parse(%q) = %+v, %d, want %+v", page, got, e, want)
		}
		checkSlowly(t, got)
	}
}

func TestNoNodes(t *testing.T) {
	refuse(t, "nil", nil)
	refuse(t, "an empty list", []api.Node{})
	refuse(t, "an empty list with a root in its spare room", rooted()[:0])
	check(t, rooted(), "")
	// An empty list of attributes is none.
	none := make([]api.Attr, 0, 4)
	ns := rooted(api.Node{Kind: api.NodeText, Attrs: none}, api.Node{Kind: api.NodeComment, Attrs: none}, api.Node{Kind: api.NodeElem, Attrs: none})
	ns[0].Attrs = none
	check(t, ns, "0 c \n0 e \n", "")
}

func TestFirstNode(t *testing.T) {
	attrs := []api.Attr{{}}
	for what, first := range map[string]api.Node{
		"an element":                {Kind: api.NodeElem, Name: "p", Parent: -1},
		"an element with Parent 0":  {Kind: api.NodeElem, Name: "p"},
		"a text":                    {Kind: api.NodeText, Text: "x", Parent: -1},
		"a comment":                 {Kind: api.NodeComment, Text: "x", Parent: -1},
		"Kind -1":                   {Kind: -1, Parent: -1},
		"Kind 4":                    {Kind: 4, Parent: -1},
		"Kind 256":                  {Kind: 256, Parent: -1},
		"Kind 1 << 32":              {Kind: 1 << 32, Parent: -1},
		"a root with Parent 0":      {},
		"a root with Parent 1":      {Parent: 1},
		"a root with Parent -2":     {Parent: -2},
		"a root with a far Parent":  {Parent: 1<<63 - 1},
		"a root with a low Parent":  {Parent: -1 << 63},
		"a root with Parent 2^32-1": {Parent: 1<<32 - 1},
		"a root with a name":        {Parent: -1, Name: "x"},
		"a root with a text":        {Parent: -1, Text: "x"},
		"a root with an attribute":  {Parent: -1, Attrs: []api.Attr{{Name: "a"}}},
		"a root with an empty one":  {Parent: -1, Attrs: attrs},
	} {
		refuse(t, what+", alone", []api.Node{first})
		refuse(t, what+", ahead of others", []api.Node{first, elem(0, "p"), text(1, "x"), text(0, "y")})
		refuse(t, what+", ahead of a root", []api.Node{first, root()})
	}
}

// wrong gives nodes that may not be as the one at the place at, each by one part of the document's words alone; ahead of them the root is 0, an element 1.
func wrong(at int) map[string]api.Node {
	out := map[string]api.Node{
		"another root":                {Kind: api.NodeRoot, Parent: -1},
		"a root within the root":      {Kind: api.NodeRoot},
		"an element with a text":      {Kind: api.NodeElem, Name: "p", Text: "x"},
		"a text with a name":          {Kind: api.NodeText, Text: "x", Name: "p"},
		"a text with an attribute":    {Kind: api.NodeText, Text: "x", Attrs: []api.Attr{{Name: "a"}}},
		"a text with an empty one":    {Kind: api.NodeText, Attrs: make([]api.Attr, 1)},
		"a comment with a name":       {Kind: api.NodeComment, Text: "x", Name: "p"},
		"a comment with an attribute": {Kind: api.NodeComment, Text: "x", Attrs: []api.Attr{{Name: "a"}}},
		"a comment with an empty one": {Kind: api.NodeComment, Attrs: make([]api.Attr, 1)},
	}
	for _, kind := range []int{-1, -2, 4, 5, 256, 257, 1 << 32, 1<<32 + 1, -1 << 63, 1<<63 - 1} {
		out[fmt.Sprint("Kind ", kind)] = api.Node{Kind: kind}
		out[fmt.Sprint("Kind ", kind, " as an element")] = api.Node{Kind: kind, Name: "p", Attrs: []api.Attr{{Name: "a"}}}
		out[fmt.Sprint("Kind ", kind, " as a text")] = api.Node{Kind: kind, Text: "x"}
	}
	for _, parent := range []int{-1, -2, at, at + 1, at + 100, 1 << 32, -1 << 32, -1 << 63, 1<<63 - 1} {
		out[fmt.Sprint("an element with Parent ", parent)] = elem(parent, "p")
		out[fmt.Sprint("a text with Parent ", parent)] = text(parent, "x")
		out[fmt.Sprint("a comment with Parent ", parent)] = remark(parent, "x")
	}
	return out
}

func TestNodesThatMayNotBe(t *testing.T) {
	fine := rooted(elem(0, "p", "a"), text(1, "x"), remark(1, "c"), elem(1, "q"), text(4, ""), elem(0, "r"))
	check(t, fine, "0 e p a\n1 c c\n1 e q\n0 e r\n", "x", "")
	for i := 1; i <= len(fine); i++ {
		for what, n := range wrong(i) {
			refuse(t, fmt.Sprint(what, ", the last at ", i), append(slices.Clone(fine[:i]), n))
			refuse(t, fmt.Sprint(what, ", at ", i), slices.Insert(slices.Clone(fine), i, n))
			if i < len(fine) {
				ns := slices.Clone(fine)
				ns[i] = n
				refuse(t, fmt.Sprint(what, ", instead of ", i), ns)
			}
		}
	}
	// A wrong one far behind.
	many := slices.Repeat(rooted(text(0, "x"))[1:], 5000)
	for what, n := range wrong(5001) {
		refuse(t, what+", far behind", append(rooted(many...), n))
	}
}

// TestParents: a Parent is the root or an element, ahead of the node.
func TestParents(t *testing.T) {
	ns := rooted(text(0, "x"), elem(0, "p"), remark(2, "c"), elem(2, "br"), text(4, "y"), remark(0, ""))
	for parent := -3; parent < len(ns)+3; parent++ {
		may := parent == 0 || parent == 2 || parent == 4
		for _, n := range []api.Node{text(parent, "z"), remark(parent, "z"), elem(parent, "z")} {
			all := append(slices.Clone(ns), n)
			_, e := Skeleton(all)
			_, f := Texts(all)
			if (e == api.OK) != may || e != f {
				t.Errorf("P8.2: the last of %+v: %d, %d", all, e, f)
			}
			if !may {
				refuse(t, "the last's Parent", all)
				refuse(t, "a Parent in the midst", append(all, elem(0, "p")))
			}
		}
	}
	// A Parent that stands behind is none, even where one of its place among those that are told stands ahead.
	refuse(t, "the Parent stands behind", rooted(elem(2, "p"), elem(0, "q")))
	refuse(t, "two within each other", rooted(elem(2, "p"), elem(1, "q")))
	refuse(t, "in itself", rooted(text(0, "x"), elem(2, "p")))
	refuse(t, "in a text of an element", rooted(elem(0, "p"), text(1, "x"), text(2, "y")))
	refuse(t, "in a comment of an element", rooted(elem(0, "p"), remark(1, "x"), elem(2, "q")))
	// It need not be open any more.
	check(t, rooted(elem(0, "a"), elem(0, "b"), text(1, "x"), elem(1, "c"), remark(2, "d"), elem(4, "e"), text(2, "y")),
		"0 e a\n0 e b\n1 e c\n2 c d\n3 e e\n", "x", "y")
}

func TestSkeletonNumbers(t *testing.T) {
	check(t, rooted(elem(0, "a"), elem(1, "b"), elem(2, "c")), "0 e a\n1 e b\n2 e c\n")
	check(t, rooted(elem(0, "a"), elem(0, "b"), elem(0, "c")), "0 e a\n0 e b\n0 e c\n")
	check(t, rooted(elem(0, "a"), elem(1, "b"), elem(1, "c"), elem(0, "d"), elem(4, "e")), "0 e a\n1 e b\n1 e c\n0 e d\n4 e e\n")
	// Texts do not count, comments do.
	check(t, rooted(text(0, "x"), elem(0, "a"), text(2, "y"), elem(2, "b"), text(4, "z"), elem(4, "c"), text(0, "t")),
		"0 e a\n1 e b\n2 e c\n", "x", "y", "z", "t")
	check(t, rooted(remark(0, "x"), elem(0, "a"), remark(2, "y"), elem(2, "b"), remark(4, "z"), elem(4, "c")),
		"0 c x\n0 e a\n2 c y\n2 e b\n4 c z\n4 e c\n")
	check(t, rooted(text(0, "x"), text(0, "y"), remark(0, "c"), text(0, "z"), elem(0, "a"), text(5, "t"), elem(5, "b")),
		"0 c c\n0 e a\n2 e b\n", "x", "y", "z", "t")
	check(t, rooted(text(0, "x")), "", "x")
	// Numbers of more than one digit.
	var ns []api.Node
	want := ""
	for i := range 1200 {
		ns = append(ns, text(2*i, "t"), elem(2*i, "p"))
		want += strconv.Itoa(i) + " e p\n"
	}
	check(t, rooted(ns...), want, slices.Repeat([]string{"t"}, 1200)...)
}

func TestSkeletonComments(t *testing.T) {
	check(t, rooted(remark(0, "")), "0 c \n")
	check(t, rooted(remark(0, ""), remark(0, "")), "0 c \n0 c \n")
	check(t, rooted(remark(0, "a b")), "0 c a b\n")
	check(t, rooted(remark(0, "a\nb"), remark(0, "\n")), "0 c a\nb\n0 c \n\n")
	check(t, rooted(remark(0, "-->\x00\xff<p>&amp;\r")), "0 c -->\x00\xff<p>&amp;\r\n")
	check(t, rooted(elem(0, "p"), remark(1, "a"), remark(0, "b")), "0 e p\n1 c a\n0 c b\n")
}

func TestSkeletonElements(t *testing.T) {
	check(t, rooted(elem(0, "")), "0 e \n")
	check(t, rooted(elem(0, "", "")), "0 e  \n")
	check(t, rooted(elem(0, "", "a", "", "b")), "0 e  a  b\n")
	check(t, rooted(elem(0, "p")), "0 e p\n")
	check(t, rooted(elem(0, "p", "a")), "0 e p a\n")
	check(t, rooted(elem(0, "p", "b", "a", "c")), "0 e p b a c\n")
	// Nothing of layer 7's bounds is asked of them: names alike, more than MaxAttrs, any bytes, within a void element.
	check(t, rooted(elem(0, "p", "a", "a", "A")), "0 e p a a A\n")
	check(t, rooted(elem(0, "br"), elem(1, "P\n\xff\x00", "a b")), "0 e br\n1 e P\n\xff\x00 a b\n")
	var names []string
	for i := range 2 * api.MaxAttrs {
		names = append(names, "a"+strconv.Itoa(i))
	}
	check(t, rooted(elem(0, "p", names...), elem(1, "q", names[:api.MaxAttrs]...)),
		"0 e p "+strings.Join(names, " ")+"\n1 e q "+strings.Join(names[:api.MaxAttrs], " ")+"\n")
	// Values tell nothing.
	with := func(v string) []api.Node {
		return rooted(api.Node{Kind: api.NodeElem, Name: "p", Attrs: []api.Attr{{Name: "a", Value: v}, {Name: "b", Value: v}}})
	}
	for _, v := range []string{"", "x", "\n0 e q\n", "\xff\x00"} {
		check(t, with(v), "0 e p a b\n")
	}
	// More than MaxNodes, and nested deeper than MaxNest.
	var deep []api.Node
	want := ""
	for i := range 2 * api.MaxNodes {
		deep = append(deep, elem(i, "d"))
		want += strconv.Itoa(i) + " e d\n"
	}
	check(t, rooted(deep...), want)
}

func TestTexts(t *testing.T) {
	check(t, rooted(elem(0, "p"), remark(1, "x")), "0 e p\n1 c x\n")
	check(t, rooted(text(0, "")), "", "")
	check(t, rooted(text(0, ""), text(0, "")), "", "", "")
	check(t, rooted(text(0, "a"), text(0, "a"), text(0, ""), text(0, "b")), "", "a", "a", "", "b")
	check(t, rooted(text(0, "c"), elem(0, "p"), text(2, "b"), remark(2, "no"), elem(2, "q"), text(5, "a"), text(2, "b"), text(0, "")),
		"0 e p\n1 c no\n1 e q\n", "c", "b", "a", "b", "")
	check(t, rooted(text(0, "\x00\xff&lt;<p>\r\n")), "", "\x00\xff&lt;<p>\r\n")
	long := strings.Repeat("x", 1<<20)
	check(t, rooted(text(0, long), remark(0, long), elem(0, long, long)), "0 c "+long+"\n0 e "+long+" "+long+"\n", long)
}

// TestSkeletonsOfPages: pages that differ only in texts and values have one skeleton.
func TestSkeletonsOfPages(t *testing.T) {
	skeleton := func(page string) string {
		ns, _ := Parse(page)
		s, e := Skeleton(ns)
		if e != api.OK {
			t.Errorf("P8.2: Skeleton of %q: %d", page, e)
		}
		return s
	}
	one := skeleton("<a x=1 y='2'>t<br></a><!--c-->")
	for _, page := range []string{"<a x y>t<br></a><!--c-->", "u<A X=3 Y>&lt;<BR/></A>v<!--c-->", "<a x=1 y=2 x=3><br>t<!--d--></a>", "<a x=1 y=2><br></a><!--c"} {
		if alike := strings.HasSuffix(page, "<!--c-->"); (skeleton(page) == one) != alike {
			t.Errorf("P8.2: the skeletons of %q: %q, %q", page, skeleton(page), one)
		}
	}
}

// slowly is a second reckoning of 'may be', Skeleton and Texts, each for itself and with all counted anew.
func slowly(ns []api.Node) (skeleton string, texts []string, may bool) {
	isTold := func(n api.Node) bool { return n.Kind == 1 || n.Kind == 3 }
	for i, n := range ns {
		named := api.Node{Kind: n.Kind, Parent: n.Parent}
		switch {
		case n.Kind == 1:
			named.Name, named.Attrs = n.Name, n.Attrs
		case n.Kind == 2 || n.Kind == 3:
			named.Text = n.Text
		}
		if !same([]api.Node{n}, []api.Node{named}) {
			return "", nil, false
		}
		if i == 0 && (n.Kind != 0 || n.Parent != -1) || i > 0 && (n.Kind < 1 || n.Kind > 3 || n.Parent < 0 || n.Parent >= i || ns[n.Parent].Kind > 1) {
			return "", nil, false
		}
	}
	for _, n := range ns {
		if n.Kind == 2 {
			texts = append(texts, n.Text)
		}
		if !isTold(n) {
			continue
		}
		number := 0
		for k := range n.Parent + 1 {
			if isTold(ns[k]) {
				number++
			}
		}
		skeleton += fmt.Sprintf("%d %c %s%s", number, "?e?c"[n.Kind], n.Name, n.Text)
		for _, a := range n.Attrs {
			skeleton += " " + a.Name
		}
		skeleton += "\n"
	}
	return skeleton, texts, len(ns) > 0
}

func checkSlowly(t *testing.T, ns []api.Node) {
	t.Helper()
	if skeleton, texts, may := slowly(ns); may {
		check(t, ns, skeleton, texts...)
	} else {
		refuse(t, fmt.Sprintf("%+v", ns), ns)
	}
	if t.Failed() {
		t.FailNow()
	}
}

// TestRowsOfNodes: all rows of two nodes, and of two behind a root and an element.
func TestRowsOfNodes(t *testing.T) {
	var all []api.Node
	for kind := -1; kind <= 4; kind++ {
		for parent := -2; parent <= 4; parent++ {
			for parts := range 8 {
				n := api.Node{Kind: kind, Parent: parent}
				if parts&1 != 0 {
					n.Name = "n"
				}
				if parts&2 != 0 {
					n.Text = "t"
				}
				if parts&4 != 0 {
					n.Attrs = []api.Attr{{Name: "a"}}
				}
				all = append(all, n)
			}
		}
	}
	for _, one := range all {
		checkSlowly(t, []api.Node{one})
		for _, two := range all {
			checkSlowly(t, []api.Node{one, two})
			checkSlowly(t, []api.Node{root(), elem(0, "p"), one, two})
		}
	}
}

// chance gives nodes that may be.
func chance(r *rand.Rand, n int) []api.Node {
	ns := rooted()
	holders := []int{0}
	for range n {
		parent := holders[r.Intn(len(holders))]
		switch name := strconv.Itoa(r.Intn(100)); r.Intn(3) {
		case 0:
			ns = append(ns, text(parent, name))
		case 1:
			ns = append(ns, remark(parent, name))
		default:
			holders = append(holders, len(ns))
			ns = append(ns, elem(parent, name, slices.Repeat([]string{name}, r.Intn(3))...))
		}
	}
	return ns
}

func TestNodesOfChance(t *testing.T) {
	r := rand.New(rand.NewSource(88))
	for range 5000 {
		ns := chance(r, r.Intn(40))
		checkSlowly(t, ns)
		// And with one part of one node turned.
		i := r.Intn(len(ns))
		switch r.Intn(5) {
		case 0:
			ns[i].Kind = r.Intn(6) - 1
		case 1:
			ns[i].Parent = r.Intn(len(ns)+4) - 2
		case 2:
			ns[i].Name += "n"
		case 3:
			ns[i].Text += "t"
		case 4:
			ns[i].Attrs = append(ns[i].Attrs, api.Attr{})
		}
		checkSlowly(t, ns)
	}
}

// roomy gives nodes with spare room in each list, one list of attributes at two places.
func roomy() []api.Node {
	ns := append(make([]api.Node, 0, 32), root())
	attrs := append(make([]api.Attr, 0, 8), api.Attr{Name: "a", Value: "1"}, api.Attr{Name: "b", Value: "2"})
	none := make([]api.Attr, 0, 8)
	return append(ns, api.Node{Kind: api.NodeElem, Name: "p", Attrs: attrs}, text(1, "x"), api.Node{Kind: api.NodeElem, Name: "q", Attrs: attrs, Parent: 1},
		api.Node{Kind: api.NodeText, Text: "y", Attrs: none, Parent: 3}, api.Node{Kind: api.NodeComment, Text: "c", Attrs: none})
}

// spread tells all that nodes hold, their spare room too.
func spread(ns []api.Node) string {
	var out strings.Builder
	for _, n := range ns[:cap(ns)] {
		fmt.Fprintf(&out, "%+v %+v %d\n", n, n.Attrs[:cap(n.Attrs)], len(n.Attrs))
	}
	return out.String()
}

// spoil overwrites each list of nodes, the spare room too.
func spoil(ns []api.Node) {
	for i, n := range ns[:cap(ns)] {
		spoilAttrs(n.Attrs)
		ns[:cap(ns)][i] = api.Node{Kind: 9, Name: "spoilt", Text: "spoilt", Parent: 9}
	}
}

func spoilAttrs(attrs []api.Attr) {
	for i := range attrs[:cap(attrs)] {
		attrs[:cap(attrs)][i] = api.Attr{Name: "spoilt", Value: "spoilt"}
	}
}

func TestNodesStay(t *testing.T) {
	const skeleton = "0 e p a b\n1 e q a b\n0 c c\n"
	ns := roomy()
	before := spread(ns)
	check(t, ns, skeleton, "x", "y")
	s, _ := Skeleton(ns)
	first, _ := Texts(ns)
	second, _ := Texts(ns)
	for i := range first[:cap(first)] {
		first[:cap(first)][i] = "spoilt"
	}
	if spread(ns) != before {
		t.Error("R4: nodes are changed")
	}
	spoil(ns)
	if s != skeleton || !slices.Equal(second, []string{"x", "y"}) {
		t.Error("R4: an answer shares memory with the nodes, or with another answer")
	}
	// Beside an error neither.
	for _, n := range wrong(6) {
		ns := append(roomy(), n)
		before := spread(ns)
		refuse(t, "spare room", ns)
		if spread(ns) != before {
			t.Errorf("R4: nodes that may not be are changed: %+v", n)
		}
	}
}

func TestPagesShareNothing(t *testing.T) {
	page := strings.Repeat("a<p x=1 y=2>b<br x=1 y=2></p><!--c-->", 20)
	first, _ := Parse(page)
	second, _ := Parse(page)
	want := spread(slices.Clip(second))
	if got := spread(slices.Clip(first)); got != want {
		t.Error("R5: two answers differ")
	}
	for i, n := range first {
		spoilAttrs(n.Attrs)
		for k := range first {
			if k > i && !slices.Equal(first[k].Attrs, second[k].Attrs) {
				t.Fatalf("R4: the nodes %d and %d share memory", i, k)
			}
		}
	}
	spoil(first)
	third, _ := Parse(page)
	if spread(slices.Clip(second)) != want || !same(second, third) {
		t.Error("R4: two answers share memory")
	}
}

func TestAtOneTime(t *testing.T) {
	page := strings.Repeat("a<p x=1 y=2>b<br x=1 y=2></p><!--c-->", 200)
	ns, _ := Parse(page)
	skeleton, _ := Skeleton(ns)
	texts, _ := Texts(ns)
	var all sync.WaitGroup
	for range 8 {
		all.Go(func() {
			for range 20 {
				got, e := Parse(page)
				s, f := Skeleton(ns)
				ts, g := Texts(ns)
				if e != api.OK || f != api.OK || g != api.OK || !same(got, ns) || s != skeleton || !slices.Equal(ts, texts) {
					t.Error("R5: answers differ between goroutines")
				}
			}
		})
	}
	all.Wait()
}

// TestTimeOfNodes: many nodes are told in a time that grows with their number, not with its square.
func TestTimeOfNodes(t *testing.T) {
	const many = 1 << 20
	began := time.Now()
	deep := make([]api.Node, 0, many+1)
	deep = append(deep, root())
	for i := range many {
		deep = append(deep, elem(i, "p"))
	}
	if s, e := Skeleton(deep); e != api.OK || strings.Count(s, "\n") != many {
		t.Errorf("P8.2: many elements: %d", e)
	}
	wide := append(slices.Repeat([]api.Node{text(0, "x")}, many), api.Node{Kind: api.NodeElem, Name: "p", Attrs: make([]api.Attr, many)})
	if ts, e := Texts(rooted(wide...)); e != api.OK || len(ts) != many {
		t.Errorf("P8.2: many texts: %d", e)
	}
	if s, e := Skeleton(rooted(wide...)); e != api.OK || s != "0 e p"+strings.Repeat(" ", many)+"\n" {
		t.Errorf("P8.2: many attributes: %d", e)
	}
	refuse(t, "a wrong one behind many", append(deep, root()))
	if took := time.Since(began); took > 30*time.Second {
		t.Errorf("many nodes took %v", took)
	}
}

func BenchmarkPage(b *testing.B) {
	page := strings.Repeat("a<p x=1 y=2>b<br x=1 y=2></p><!--c-->", 600)
	for range b.N {
		ns, _ := Parse(page)
		Skeleton(ns)
		Texts(ns)
	}
}
