package tok

import (
	"math/rand"
	"reflect"
	"strconv"
	"strings"
	"sync"
	"testing"
	"time"

	"stole/api"
	"stole/refs"
)

func text(s string) api.Token { return api.Token{Kind: api.TokText, Text: s} }

// start gives a start tag; the names and values of its attributes stand in turn.
func start(name string, parts ...string) api.Token {
	t := api.Token{Kind: api.TokStart, Name: name}
	for i := 0; i < len(parts); i += 2 {
		t.Attrs = append(t.Attrs, api.Attr{Name: parts[i], Value: parts[i+1]})
	}
	return t
}

func self(t api.Token) api.Token {
	t.Self = true
	return t
}

func end(name string) api.Token { return api.Token{Kind: api.TokEnd, Name: name} }

func remark(s string) api.Token { return api.Token{Kind: api.TokComment, Text: s} }

// check holds Tokens of a page against what is wanted.
func check(t *testing.T, page string, want ...api.Token) {
	t.Helper()
	got, e := Tokens(page)
	if e != api.OK || len(got) != len(want) {
		t.Errorf("P5.2: Tokens(%q) = %+v, %d, want %+v", page, got, e, want)
		return
	}
	for i := range got {
		if len(got[i].Attrs) == 0 {
			got[i].Attrs = nil
		}
		if !reflect.DeepEqual(got[i], want[i]) {
			t.Errorf("P5.2: Tokens(%q): token %d is %+v, want %+v", page, i, got[i], want[i])
		}
	}
}

func TestLineEnds(t *testing.T) {
	check(t, "\r", text("\n"))
	check(t, "\r\n", text("\n"))
	check(t, "\n\r", text("\n\n"))
	check(t, "\r\r\n\n", text("\n\n\n"))
	check(t, "a\rb\r\nc\nd\r", text("a\nb\nc\nd\n"))
	check(t, "a&#13;\r\n&#10;", text("a\r\n\n"))
	check(t, "<p a='\r\n\r' b=\"\r\"\rc\r\n=\rd\r>\r", start("p", "a", "\n\n", "b", "\n", "c", "d"), text("\n"))
	check(t, "<!--\r\n\r--><!\r>", remark("\n\n"), remark("\n"))
	check(t, "<script>\r\n\r</script\r>", start("script"), text("\n\n"), end("script"))
}

func TestTexts(t *testing.T) {
	check(t, "")
	check(t, "a", text("a"))
	check(t, "\x00\xff>='\"/!-", text("\x00\xff>='\"/!-"))
	check(t, "a<b>c</b>d<br>e", text("a"), start("b"), text("c"), end("b"), text("d"), start("br"), text("e"))
	check(t, "a<!--b-->c", text("a"), remark("b"), text("c"))
	check(t, "&lt;p&gt;&amp;lt;&#65;&x;", text("<p>&lt;A&x;"))
	check(t, "&l<b>t;", text("&l"), start("b"), text("t;"))
	check(t, "<script>&lt;</script>&lt;", start("script"), text("&lt;"), end("script"), text("<"))
	check(t, "<style>&lt;</style>&lt;", start("style"), text("&lt;"), end("style"), text("<"))
	check(t, "<title>&lt;</title>&lt;", start("title"), text("<"), end("title"), text("<"))
	check(t, "<textarea>&lt;</textarea>&lt;", start("textarea"), text("<"), end("textarea"), text("<"))
	check(t, "</script>&lt;", end("script"), text("<"))
	check(t, "<script>&lt;", start("script"), text("&lt;"))
	check(t, "<style>&lt;</", start("style"), text("&lt;</"))
}

func TestTextsThatLookLikeTags(t *testing.T) {
	check(t, "a < b", text("a < b"))
	check(t, "a </ b", text("a </ b"))
	check(t, "a <1> b </1> <> </> <?x>", text("a <1> b </1> <> </> <?x>"))
	check(t, "<", text("<"))
	check(t, "</", text("</"))
	check(t, "a<", text("a<"))
	check(t, "a</", text("a</"))
	check(t, "a<b><", text("a"), start("b"), text("<"))
	check(t, "<<<p>", text("<<"), start("p"))
	check(t, "</</p>", text("</"), end("p"))
	check(t, "x<</<!d>y", text("x<</"), remark("d"), text("y"))
	check(t, "&lt<p>", text("&lt"), start("p"))
	check(t, "&#60<;", text("&#60<;"))
}

func TestHeldTexts(t *testing.T) {
	check(t, "<script></script>", start("script"), end("script"))
	check(t, "<script><p></p><!--x--></script>", start("script"), text("<p></p><!--x-->"), end("script"))
	check(t, "<script>a</scrip>b</scripts>c</ script>d</SCRIPT>e", start("script"), text("a</scrip>b</scripts>c</ script>d"), end("script"), text("e"))
	check(t, "<script>a<</</sc</script>b", start("script"), text("a<</</sc"), end("script"), text("b"))
	check(t, "<script>a</script\t>b", start("script"), text("a"), end("script"), text("b"))
	check(t, "<script>a</script/>b", start("script"), text("a"), end("script"), text("b"))
	check(t, "<script>a</script x='>' y>b", start("script"), text("a"), end("script"), text("b"))
	check(t, "<script>a</style>b</script>", start("script"), text("a</style>b"), end("script"))
	check(t, "<title>a<b>&amp;</b></title>", start("title"), text("a<b>&</b>"), end("title"))
	check(t, "<title>a", start("title"), text("a"))
	check(t, "<title>a<", start("title"), text("a<"))
	check(t, "<title>a</", start("title"), text("a</"))
	check(t, "<title>a</tit", start("title"), text("a</tit"))
	check(t, "<title>a</title", start("title"), text("a</title"))
	check(t, "<title>a</title ", start("title"), text("a"))
	check(t, "<title>a</title/", start("title"), text("a"))
	check(t, "<title>a</title x=y", start("title"), text("a"))
	check(t, "<title/>a</title>", self(start("title")), text("a"), end("title"))
}

func TestTags(t *testing.T) {
	check(t, "<P>", start("p"))
	check(t, "</P>", end("p"))
	check(t, "<p-1:\xff\x00'\"=<>", start("p-1:\xff\x00'\"=<"))
	check(t, "<p a='1' b=\"2\" c=3 d>", start("p", "a", "1", "b", "2", "c", "3", "d", ""))
	check(t, "<p A  =  '1'  B = 3 C >", start("p", "a", "1", "b", "3", "c", ""))
	check(t, "<p a='\"' b=\"'\" c='' d=\"\" e=>", start("p", "a", "\"", "b", "'", "c", "", "d", "", "e", ""))
	check(t, "<p a='&lt;&quot;' b=\"&amp;amp;\" c=&#65;&gt d='<>'>", start("p", "a", "<\"", "b", "&amp;", "c", "A&gt", "d", "<>"))
	check(t, "<p a='1'b=\"2\"c>", start("p", "a", "1", "b", "2", "c", ""))
	check(t, "<p a/b/ c>", start("p", "a", "", "b", "", "c", ""))
	check(t, "<p/a=1/>", start("p", "a", "1/"))
	check(t, "<p a = /x>", start("p", "a", "/x"))
	check(t, "<p a=b'c\"d=e<f>", start("p", "a", "b'c\"d=e<f"))
	check(t, "<p =>", start("p", "=", ""))
	check(t, "<p ==1 '=2 \"=3>", start("p", "=", "1", "'", "2", "\"", "3"))
	check(t, "<p a=1\tb=2\nc=3\fd=4\ve=5>", start("p", "a", "1", "b", "2", "c", "3", "d", "4\ve=5"))
	check(t, "</p a='1' b>", end("p"))
	check(t, "</p a='1'><b c>", end("p"), start("b", "c", ""))
	check(t, "<a b=c><d><e f>", start("a", "b", "c"), start("d"), start("e", "f", ""))
}

func TestAttrsOfOneName(t *testing.T) {
	check(t, "<p a=1 a=2>", start("p", "a", "1"))
	check(t, "<p a A='2' a=\"3\" b=4 a>", start("p", "a", "", "b", "4"))
	check(t, "<p a=1 b=2 A=3 B=4 c=5>", start("p", "a", "1", "b", "2", "c", "5"))
	check(t, "<p a='' a=1>", start("p", "a", ""))
	check(t, "<p a= a=1 a=2>", start("p", "a", "a=1"))
	check(t, "<p a=1><p a=2>", start("p", "a", "1"), start("p", "a", "2"))
	long := strings.Repeat("n", api.MaxName)
	check(t, "<"+long+"x "+long+"=1 "+long+"y=2 "+long[1:]+"=3>", start(long, long, "1", long[1:], "3"))
}

func TestManyAttrs(t *testing.T) {
	row := func(n int) (string, []string) {
		page, parts := "<p", []string{}
		for i := range n {
			name := "a" + strconv.Itoa(i)
			page += " " + name + "=" + strconv.Itoa(i)
			parts = append(parts, name, strconv.Itoa(i))
		}
		return page, parts
	}
	for n := api.MaxAttrs - 1; n <= api.MaxAttrs+2; n++ {
		page, parts := row(n)
		check(t, page+" a0=x>", start("p", parts[:2*min(n, api.MaxAttrs)]...))
	}
	// Those that are there already don't count.
	page, parts := row(api.MaxAttrs - 1)
	check(t, page+" a0=x a1 z=1 y=2 z=3>", start("p", append(parts, "z", "1")...))
}

func TestTagsThatCloseThemselves(t *testing.T) {
	check(t, "<br/>", self(start("br")))
	check(t, "<p />", self(start("p")))
	check(t, "<p//>", self(start("p")))
	check(t, "<p a/>", self(start("p", "a", "")))
	check(t, "<p a />", self(start("p", "a", "")))
	check(t, "<p a='1'/>", self(start("p", "a", "1")))
	check(t, "<p a=1 />", self(start("p", "a", "1")))
	check(t, "<p a=1/>", start("p", "a", "1/"))
	check(t, "<p a=/>", start("p", "a", "/"))
	check(t, "<p / >", start("p"))
	check(t, "<p /a>", start("p", "a", ""))
	check(t, "<p a='/'>", start("p", "a", "/"))
	check(t, "<p/><p>", self(start("p")), start("p"))
	check(t, "</p/>", end("p"))
	check(t, "<script/>a</script/>", self(start("script")), text("a"), end("script"))
}

func TestComments(t *testing.T) {
	check(t, "<!---->", remark(""))
	check(t, "<!----->", remark("-"))
	check(t, "<!-- a - b -- c -->", remark(" a - b -- c "))
	check(t, "<!-->-->", remark(">"))
	check(t, "<!--->-->", remark("->"))
	check(t, "<!--a--!>b-->", remark("a--!>b"))
	check(t, "<!--<p>&lt;<!---->", remark("<p>&lt;<!--"))
	check(t, "<!>", remark(""))
	check(t, "<!->", remark("-"))
	check(t, "<!-a-->b-->", remark("-a--"), text("b-->"))
	check(t, "<!DOCTYPE html>", remark("DOCTYPE html"))
	check(t, "<!a&lt;<b>c", remark("a&lt;<b"), text("c"))
	check(t, "a<!b><!--c-->d", text("a"), remark("b"), remark("c"), text("d"))
}

func TestWhatHasNotEnded(t *testing.T) {
	for _, tail := range []string{
		"<p", "<P ", "<p a", "<p a ", "<p a=", "<p a= ", "<p a='", "<p a='b", "<p a='b'", "<p a=\"b>", "<p a=b", "<p/", "<p a='>", "<p><", "</p", "</p ", "</p/",
		"<!", "<!-", "<!--", "<!-- a", "<!-- a -", "<!-- a --", "<!a", "<!-a", "<!-- <p> --",
	} {
		var want []api.Token
		if tail == "<p><" {
			want = []api.Token{start("p"), text("<")}
		}
		check(t, tail, want...)
		check(t, "x"+tail, append([]api.Token{text("x")}, want...)...)
		check(t, "<b>"+tail, append([]api.Token{start("b")}, want...)...)
		check(t, "&lt;<"+tail, append([]api.Token{text("<<")}, want...)...)
	}
}

func TestLongPages(t *testing.T) {
	for _, c := range []string{"x", "\r", "\r\n", "<", "</", "<p>", "<p ", "<p a=b>", "<!", "<!-", "<script>", "</script", "&amp;"} {
		page := strings.Repeat(c, api.MaxText/len(c))
		page += strings.Repeat("x", api.MaxText-len(page))
		if _, e := Tokens(page); e != api.OK {
			t.Errorf("P5.2: %q many times: %d", c, e)
		}
		if got, e := Tokens(page + "x"); got != nil || e != api.ErrTokLong {
			t.Errorf("P5.2: %q many times and one more byte: %d tokens, %d", c, len(got), e)
		}
	}
	check(t, strings.Repeat("x", api.MaxText), text(strings.Repeat("x", api.MaxText)))
	check(t, strings.Repeat("\r\n", api.MaxText/2), text(strings.Repeat("\n", api.MaxText/2)))
	if got, e := Tokens(strings.Repeat("\r\n", api.MaxText/2) + "\n"); got != nil || e != api.ErrTokLong {
		t.Errorf("P5.2: the bytes of the page count as they come: %d tokens, %d", len(got), e)
	}
	value := strings.Repeat("v", api.MaxText-9)
	check(t, "<p a='"+value+"'>", start("p", "a", value))
}

// TestTimeOfPages: a page of the greatest size is read in a time that grows with its bytes, not with their square.
func TestTimeOfPages(t *testing.T) {
	began := time.Now()
	for _, c := range []string{"<", "</", "a b=c ", "a=& ", "&#", "<a ", "-", "<!--", "</script", "</titl"} {
		for _, lead := range []string{"", "<p ", "<!--", "<script>", "<title>", "<p a='", "<"} {
			page := lead + strings.Repeat(c, (api.MaxText-len(lead)-1)/len(c)) + ">"
			if _, e := Tokens(page); e != api.OK {
				t.Errorf("P5.2: %q and %q many times: %d", lead, c, e)
			}
		}
	}
	if took := time.Since(began); took > 30*time.Second {
		t.Errorf("70 pages took %v", took)
	}
}

// TestAnswersShareNothing: what is written into one answer is not seen in another, nor in another list of the same one.
func TestAnswersShareNothing(t *testing.T) {
	page := "<a b=c d=e><f g=h>x<i j>"
	first, _ := Tokens(page)
	second, _ := Tokens(page)
	for i := range first {
		as := first[i].Attrs
		for k := range cap(as) {
			as[:cap(as)][k] = api.Attr{Name: "written", Value: strconv.Itoa(i)}
		}
		for k := range first {
			if k > i && len(first[k].Attrs) > 0 && first[k].Attrs[0].Name == "written" {
				t.Errorf("R4: tokens %d and %d share memory", i, k)
			}
		}
	}
	if want, _ := Tokens(page); !reflect.DeepEqual(second, want) {
		t.Errorf("R4: answers share memory: %+v", second)
	}
}

func TestTokensAtOneTime(t *testing.T) {
	page := strings.Repeat("a<b c='d' e=\"f\" g=h i/><!-- x --><script>y</scr</script>\r\n", 50)
	want, _ := Tokens(page)
	var all sync.WaitGroup
	for range 8 {
		all.Go(func() {
			if got, e := Tokens(page); e != api.OK || !reflect.DeepEqual(got, want) {
				t.Error("R5: answers differ between goroutines")
			}
		})
	}
	all.Wait()
}

// scan is a second reckoning of Tokens: it reads by what stands ahead, without states.
type scan struct {
	s   string
	out []api.Token
}

// until gives what stands ahead of the first byte of any, and takes it; false, if there is none.
func (p *scan) until(any string) (string, bool) {
	i := strings.IndexAny(p.s, any)
	if i < 0 {
		return "", false
	}
	head := p.s[:i]
	p.s = p.s[i:]
	return head, true
}

func (p *scan) skip(any string) {
	p.s = strings.TrimLeft(p.s, any)
}

func (p *scan) add(s string, decoded bool) {
	if s == "" {
		return
	}
	if decoded {
		s = refs.Decode(s)
	}
	p.out = append(p.out, text(s))
}

// lowAll gives s in small letters, cut to a name's length.
func lowAll(s string) string {
	out := ""
	for i := range min(len(s), api.MaxName) {
		out += low(s[i])
	}
	return out
}

// isLetterAt tells whether a letter stands at i.
func isLetterAt(s string, i int) bool {
	return i < len(s) && strings.IndexByte(letters, s[i]) >= 0
}

// slowly reads a page.
func slowly(page string) []api.Token {
	p := &scan{s: strings.ReplaceAll(strings.ReplaceAll(page, "\r\n", "\n"), "\r", "\n")}
	loose := ""
	for p.s != "" {
		switch {
		case strings.HasPrefix(p.s, "<!"):
			p.add(loose, true)
			loose = ""
			p.remark()
		case strings.HasPrefix(p.s, "<") && isLetterAt(p.s, 1):
			p.add(loose, true)
			loose, p.s = "", p.s[1:]
			p.tag(false)
		case strings.HasPrefix(p.s, "</") && isLetterAt(p.s, 2):
			p.add(loose, true)
			loose, p.s = "", p.s[2:]
			p.tag(true)
		default:
			loose += p.s[:1]
			p.s = p.s[1:]
		}
	}
	p.add(loose, true)
	return p.out
}

// remark reads a comment.
func (p *scan) remark() {
	from, mark := 2, ">"
	if strings.HasPrefix(p.s, "<!--") {
		from, mark = 4, "-->"
	}
	body, rest, ended := strings.Cut(p.s[from:], mark)
	p.s = rest
	if ended {
		p.out = append(p.out, remark(body))
	}
}

// tag reads a tag from its name on, and what it holds.
func (p *scan) tag(isEnd bool) {
	name, ok := p.until(blanks + "/>")
	t := api.Token{Kind: api.TokStart, Name: lowAll(name)}
	seen := map[string]bool{}
	for ok {
		slashed := false
		for p.s != "" && strings.IndexByte(blanks+"/", p.s[0]) >= 0 {
			slashed = p.s[0] == '/'
			p.s = p.s[1:]
		}
		if p.s == "" {
			return
		}
		if p.s[0] == '>' {
			p.s = p.s[1:]
			t.Self = slashed
			p.end(t, isEnd)
			return
		}
		var a api.Attr
		a, ok = p.attr()
		if ok && !seen[a.Name] && len(t.Attrs) < api.MaxAttrs {
			t.Attrs = append(t.Attrs, a)
		}
		seen[a.Name] = true
	}
	p.s = ""
}

// attr reads an attribute; false, if the page ends in it.
func (p *scan) attr() (api.Attr, bool) {
	// The first byte is of the name even if it is a `=`.
	first := p.s[:1]
	p.s = p.s[1:]
	name, ok := p.until(blanks + "/>=")
	a := api.Attr{Name: lowAll(first + name)}
	if !ok {
		return a, false
	}
	p.skip(blanks)
	if !strings.HasPrefix(p.s, "=") {
		return a, p.s != ""
	}
	p.s = p.s[1:]
	p.skip(blanks)
	if p.s == "" {
		return a, false
	}
	if quote := p.s[:1]; quote == "'" || quote == "\"" {
		value, rest, ended := strings.Cut(p.s[1:], quote)
		p.s, a.Value = rest, refs.Decode(value)
		return a, ended
	}
	value, ok := p.until(blanks + ">")
	a.Value = refs.Decode(value)
	return a, ok
}

// end gives a tag out, and reads what it holds up to its end tag's name.
func (p *scan) end(t api.Token, isEnd bool) {
	if isEnd {
		p.out = append(p.out, end(t.Name))
		return
	}
	p.out = append(p.out, t)
	if !strings.Contains(" title textarea script style ", " "+t.Name+" ") {
		return
	}
	decoded := t.Name == "title" || t.Name == "textarea"
	for i := range len(p.s) {
		name := i + 2 + len(t.Name)
		if name < len(p.s) && p.s[i:i+2] == "</" && lowAll(p.s[i+2:name]) == t.Name && strings.IndexByte(blanks+"/>", p.s[name]) >= 0 {
			p.add(p.s[:i], decoded)
			p.s = p.s[i+2:]
			p.tag(true)
			return
		}
	}
	p.add(p.s, decoded)
	p.s = ""
}

// same tells whether two rows of tokens are one.
func same(a, b []api.Token) bool {
	return len(a) == 0 && len(b) == 0 || reflect.DeepEqual(a, b)
}

func TestTokensOfRows(t *testing.T) {
	parts := []string{"<", ">", "/", "!", "-", "=", "'", "\"", " ", "a", "B"}
	var grow func(page string, left int)
	grow = func(page string, left int) {
		if got, e := Tokens(page); e != api.OK || !same(got, slowly(page)) {
			t.Fatalf("P5.2: Tokens(%q) = %+v, %d, want %+v", page, got, e, slowly(page))
		}
		if left == 0 {
			return
		}
		for _, part := range parts {
			grow(page+part, left-1)
		}
	}
	for _, lead := range []string{"", "<p", "<p a", "<p a=", "<p a='", "<!-", "<title></title"} {
		grow(lead, 4)
	}
}

func TestTokensOfChance(t *testing.T) {
	r := rand.New(rand.NewSource(5))
	parts := []string{
		"<", ">", "/", "!", "-", "--", "-->", "=", "'", "\"", " ", "\n", "\r", "\f", "\v", "a", "B", "p", "x", "\x00", "\xff", "<p>", "</p>", "<p ", " a=", "='", "=\"", "/>",
		"<script>", "</script>", "</SCRIPT", "<Title ", "</title ", "</titl", "<style/>", "</style/", "<textarea>", "</textarea>", "<!--", "<!", "&lt;", "&", "lt;", "&#65;",
		strings.Repeat("n", api.MaxName), "<br>", strings.Repeat(" b0=1 b1=2 b2='3' b3", 3),
	}
	for i := range 40 {
		parts = append(parts, " c"+strconv.Itoa(i)+"=1")
	}
	for range 60000 {
		page := ""
		for range r.Intn(30) {
			page += parts[r.Intn(len(parts))]
		}
		if got, e := Tokens(page); e != api.OK || !same(got, slowly(page)) {
			t.Fatalf("P5.2: Tokens(%q) = %+v, %d, want %+v", page, got, e, slowly(page))
		}
	}
}

func BenchmarkTokens(b *testing.B) {
	page := strings.Repeat("a<b c='d' e=\"f\" g=h i/><!-- x --><script>y</scr</script>\r\n", api.MaxText/60)
	for range b.N {
		Tokens(page)
	}
}

func BenchmarkStep(b *testing.B) {
	s := api.State{At: api.StateDouble, Name: "p", Attr: "q"}
	for range b.N {
		s = Step(s, 'x')
	}
}
