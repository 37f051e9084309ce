package lex

import (
	"fmt"
	"regexp"
	"slices"
	"strings"
	"sync"
	"testing"
	"time"
	"unsafe"

	"stole/api"
)

func text(s string, at int) api.Piece { return api.Piece{Text: s, At: at} }

func action(s string, at int) api.Piece { return api.Piece{Action: true, Text: s, At: at} }

// shown gives the begin of what an answer is.
func shown(pieces []api.Piece) string { return fmt.Sprintf("%.300s", fmt.Sprintf("%+v", pieces)) }

// turned gives a text as it stands behind the turning of 13s.
func turned(s string) string {
	return regexp.MustCompile("\r\n?").ReplaceAllString(s, "\n")
}

// check holds Split of a source against the pieces that are wanted.
func check(t *testing.T, source string, want ...api.Piece) {
	t.Helper()
	if got, e := Split(source); e != api.OK || !slices.Equal(got, want) {
		t.Errorf("P13.1: Split(%.200q) = %s, %d, want %s", source, shown(got), e, shown(want))
	}
}

// refuse holds Split of sources against an error, with no piece beside it (R2).
func refuse(t *testing.T, want api.Errno, sources ...string) {
	t.Helper()
	for _, source := range sources {
		if got, e := Split(source); len(got) != 0 || e != want {
			t.Errorf("P13.1, R2: Split(%.200q) = %s, %d, want %d", source, shown(got), e, want)
		}
	}
}

func TestTexts(t *testing.T) {
	check(t, "")
	for _, s := range []string{
		"a", " ", "\n", " \t\n ", "abc", "}", "}}", "a}}b", "}}}}", "-}}", " -}} ", "*/}}", "/* a */", "\"", "\\", "- ", "{a", "{ {", "{-{x", "{\"{\"", "{\\{x", "\x00", "\xff\xfe", "é\u2028", "<p>{a}</p>",
	} {
		check(t, s, text(s, 0))
		check(t, "{{x}}"+s, action("x", 0), text(s, 5))
		if !strings.HasSuffix(s, "{") {
			check(t, s+"{{x}}", text(s, 0), action("x", len(s)))
			check(t, "{{x}}"+s+"{{y}}", action("x", 0), text(s, 5), action("y", 5+len(s)))
		}
	}
	check(t, "{", text("{", 0))
	check(t, "a{", text("a{", 0))
	check(t, "{{a}}{", action("a", 0), text("{", 5))
	check(t, "{a}{{b}}{c}", text("{a}", 0), action("b", 3), text("{c}", 8))
}

// TestOfThreeBraces: the first two are the begin, and the first two the end.
func TestOfThreeBraces(t *testing.T) {
	check(t, "{{{a}}}", action("{a", 0), text("}", 6))
	check(t, "{{{{a}}}}", action("{{a", 0), text("}}", 7))
	check(t, "x{{{}}}", text("x", 0), action("{", 1), text("}", 6))
	check(t, "{{}}}}", action("", 0), text("}}", 4))
	check(t, "{{a} }}", action("a}", 0)) // a `}` alone ends nothing
	check(t, "{{a{{b}}c", action("a{{b", 0), text("c", 8))
	check(t, "{{}a}}", action("}a", 0))
}

// TestEachByte: each stays as it is, in a text and in an action, but for the 13; a `"` begins a text of an action.
func TestEachByte(t *testing.T) {
	for b := range 256 {
		s := string([]byte{byte(b)})
		want := s
		if b == '\r' {
			want = "\n"
		}
		check(t, s, text(want, 0))
		check(t, "x"+s+"y"+s, text("x"+want+"y"+want, 0))
		check(t, "x"+s+"y{{a}}z"+s, text("x"+want+"y", 0), action("a", 3), text("z"+want, 8))
		if b == '"' {
			refuse(t, api.ErrLexOpen, "{{x"+s+"y}}")
			continue
		}
		check(t, "{{x"+s+"y}}", action("x"+want+"y", 0))
		if b != '\\' {
			check(t, "{{\""+s+"\"}}", action("\""+want+"\"", 0))
		}
	}
}

func TestLineEnds(t *testing.T) {
	check(t, "\r", text("\n", 0))
	check(t, "\r\n", text("\n", 0))
	check(t, "\n\r", text("\n\n", 0))
	check(t, "\r\r\r", text("\n\n\n", 0))
	check(t, "\r\r\n\r\n\n", text("\n\n\n\n", 0))
	check(t, "a\r", text("a\n", 0))
	check(t, "a\r\n{{b}}\rc{{d}}", text("a\n", 0), action("b", 2), text("\nc", 7), action("d", 9))
	check(t, "\r\n\r\n{{a}}\r\n{{b}}\r", text("\n\n", 0), action("a", 2), text("\n", 7), action("b", 8), text("\n", 13))
	check(t, "{{\r\na\r}}x", action("a", 0), text("x", 7))
	check(t, "{{a\r\nb}}x", action("a\nb", 0), text("x", 7))
	check(t, "{{a\rb\r\r\nc}}x", action("a\nb\n\nc", 0), text("x", 10))
	check(t, "{{\"a\r\nb\r\"}}", action("\"a\nb\n\"", 0))
	check(t, "{{\"\\\r\n\"}}", action("\"\\\n\"", 0)) // one byte behind the `\`
	check(t, "a\r{{-\rb\r\n-}}\r\nc", text("a", 0), action("b", 2), text("c", 11))
	check(t, "a{{/*\r\n*/\r\n-}}\r\n b", text("a", 0), text("b", 12))
	check(t, "a\r\n{{/*\r\n*/}}b{{c}}", text("a\n", 0), text("b", 11), action("c", 12))
}

func TestActions(t *testing.T) {
	check(t, "{{}}", action("", 0))
	check(t, "{{ }}", action("", 0))
	check(t, "{{ \t\n \n}}", action("", 0))
	check(t, "{{}}{{ }}{{\n}}", action("", 0), action("", 4), action("", 9))
	check(t, "{{a}}", action("a", 0))
	check(t, "{{ \t\na b\n\t }}", action("a b", 0))
	check(t, "{{\va\f}}", action("\va\f", 0))
	check(t, "{{\u00A0a\u2003}}", action("\u00A0a\u2003", 0))
	check(t, "{{a}}{{b}}{{c}}", action("a", 0), action("b", 5), action("c", 10))
	check(t, "x{{a}}{{b}}y{{c}}", text("x", 0), action("a", 1), action("b", 6), text("y", 11), action("c", 12))
	check(t, " {{a}} ", text(" ", 0), action("a", 1), text(" ", 6))
	check(t, "é{{é}}é", text("é", 0), action("é", 2), text("é", 8))
	check(t, "{{'}}'}}", action("'", 0), text("'}}", 5))
	check(t, "{{`}}", action("`", 0))
	check(t, "{{a /* b */}}", action("a /* b */", 0))
	check(t, "{{a */}}", action("a */", 0))
	check(t, "{{/ *}}", action("/ *", 0))
	check(t, "{{/}}", action("/", 0))
	check(t, "{{a\\}}b", action("a\\", 0), text("b", 6))
	check(t, "{{\x00\xff}}", action("\x00\xff", 0))
}

func TestTextsOfActions(t *testing.T) {
	for _, s := range []string{
		`""`, `"}}"`, `"{{"`, `"{{}}"`, `"a" "}}" "b"`, `"}" "}"`, `"\""`, `"\"}}"`, `"\\"`, `"\\\""`, `"\\\"}}"`, `"}}\\"`, `"\}}"`, `"\q}}"`, `"/* }} */"`, `"-"`, `"a -"`, `"'"`, `"\` + "\n" + `"`, `"}}` + "\n" + `"`, `a"}}"b`, `"""}}"`, `}"}}"`, `"}}"}`, `"\` + "\xff" + `"`,
	} {
		check(t, "{{"+s+" }}", action(s, 0))
		check(t, "x{{ "+s+" }}}}y", text("x", 0), action(s, 1), text("}}y", len(s)+7))
		check(t, "{{- "+s+" -}} {{b}}", action(s, 0), action("b", len(s)+9))
	}
	check(t, `{{""}}"}}`, action(`""`, 0), text(`"}}`, 6))
	check(t, `{{"\\"}}"}}`, action(`"\\"`, 0), text(`"}}`, 8))
	check(t, `{{"a}}"}}{{"b}}"}}`, action(`"a}}"`, 0), action(`"b}}"`, 9))
	check(t, `{{" a "}}`, action(`" a "`, 0))
	// Outside of a text a `\` is a byte as others are.
	check(t, `{{\}}"}}`, action(`\`, 0), text(`"}}`, 5))
	check(t, `{{\"}}"}}`, action(`\"}}"`, 0))
	// Outside of an action a `"` begins no text of one.
	check(t, `"{{a}}"{{b}}"`, text(`"`, 0), action("a", 1), text(`"`, 6), action("b", 7), text(`"`, 12))
}

func TestActionsWithoutAnEnd(t *testing.T) {
	for _, s := range []string{
		"{{", "{{ ", "{{a", "{{a }", "{{}", "{{{", "{{{}", "{{a} }", "{{-", "{{- ", "{{- a -", "{{a -}", "{{{{", "{{a{{b}",
		`{{"`, `{{"a`, `{{"}}`, `{{a"}}`, `{{"a"b"}}`, `{{"\"}}`, `{{"\\\"}}`, `{{"\`, `{{"a\`, `{{"\\`, `{{"a"`, `{{"a"}`, `{{"}}" "}}`, `{{"""}}`, `{{\"}}`,
		"{{\r\n", "{{\"\r", "{{a}\r}",
	} {
		refuse(t, api.ErrLexOpen, s, "a"+s, "{{a}}"+s, "{{a}} b "+s, "{{/* a */}}"+s, "{{a -}} "+s)
	}
	// The end of one that stands behind is none of it, if it is in a text.
	refuse(t, api.ErrLexOpen, `{{"a}}{{b}}`, `{{"a}}{{"b}}{{"c}}`)
	check(t, `{{"a}}{{b"}}`, action(`"a}}{{b"`, 0))
	check(t, "{{a}{{b}}", action("a}{{b", 0))
}

func TestTrimMarksAtTheBegin(t *testing.T) {
	for _, blank := range []string{" ", "\t", "\n", "\r", "\r\n", "  ", "\n\t ", " \n\n\t\t  "} {
		n := len(turned(blank))
		check(t, "a"+blank+"{{-"+blank+"b}}"+blank+"c", text("a", 0), action("b", 1+n), text(turned(blank)+"c", 7+2*n))
		check(t, blank+"{{-"+blank+"b}}", action("b", n))
		check(t, "{{-"+blank+"b}}", action("b", 0))
		check(t, "a"+blank+"{{-"+blank+"}}", text("a", 0), action("", 1+n))
		check(t, blank+"a"+blank+"b"+blank+"{{-"+blank+"}}", text(turned(blank+"a"+blank+"b"), 0), action("", 2+3*n))
	}
	check(t, "a {{-b}}", text("a ", 0), action("-b", 2))
	check(t, "a {{-}}", text("a ", 0), action("-", 2))
	check(t, "a {{--}}", text("a ", 0), action("--", 2))
	check(t, "a {{-- b}}", text("a ", 0), action("-- b", 2))
	check(t, "a {{-\"b\"}}", text("a ", 0), action("-\"b\"", 2))
	check(t, "a {{-\fb}}", text("a ", 0), action("-\fb", 2))
	check(t, "a {{-\u00A0b}}", text("a ", 0), action("-\u00A0b", 2))
	check(t, "a {{ - b}}", text("a ", 0), action("- b", 2))
	check(t, "a {{- - b}}", text("a", 0), action("- b", 2))
	check(t, "a {{- -1}}", text("a", 0), action("-1", 2))
	check(t, "a {-{b}}", text("a {-{b}}", 0))
	// Blanks alone are left away: 11, 12 and others stay.
	check(t, "a\v\f {{- b}}", text("a\v\f", 0), action("b", 4))
	check(t, " \f{{- b}}", text(" \f", 0), action("b", 2))
	check(t, "a\u00A0{{- b}}", text("a\u00A0", 0), action("b", 3))
	check(t, "a\x00{{- b}}", text("a\x00", 0), action("b", 2))
	// Those of the text ahead alone.
	check(t, "a {{b}}{{- c}}", text("a ", 0), action("b", 2), action("c", 7))
	check(t, "a {{/* b */}}{{- c}}", text("a ", 0), action("c", 13))
}

func TestTrimMarksAtTheEnd(t *testing.T) {
	for _, blank := range []string{" ", "\t", "\n", "\r", "\r\n", "  ", "\n\t ", " \n\n\t\t  "} {
		n := len(turned(blank))
		check(t, "a"+blank+"{{b"+blank+"-}}"+blank+"c", text("a"+turned(blank), 0), action("b", 1+n), text("c", 7+2*n))
		check(t, "{{b"+blank+"-}}"+blank, action("b", 0))
		check(t, "{{b"+blank+"-}}", action("b", 0))
		check(t, "{{b"+blank+"-}}"+blank+"c"+blank, action("b", 0), text("c"+turned(blank), 6+n))
		check(t, "{{b"+blank+"-}}"+blank+"{{c}}", action("b", 0), action("c", 6+2*n))
		check(t, "{{\"b\""+blank+"-}}"+blank+"c", action("\"b\"", 0), text("c", 8+n))
	}
	check(t, "{{a-}} b", action("a-", 0), text(" b", 6))
	check(t, "{{-}} b", action("-", 0), text(" b", 5))
	check(t, "{{--}} b", action("--", 0), text(" b", 6))
	check(t, "{{a --}} b", action("a --", 0), text(" b", 8))
	check(t, "{{a - }} b", action("a -", 0), text(" b", 8))
	check(t, "{{a -}}} b", action("a", 0), text("} b", 7))
	check(t, "{{a - -}} b", action("a -", 0), text("b", 9))
	check(t, "{{\"a -\"}} b", action("\"a -\"", 0), text(" b", 9))
	check(t, "{{\"a\"-}} b", action("\"a\"-", 0), text(" b", 8))
	check(t, "{{a\f-}} b", action("a\f-", 0), text(" b", 7))
	check(t, "{{a\u00A0-}} b", action("a\u00A0-", 0), text(" b", 8))
	check(t, "{{a -}}\v b", action("a", 0), text("\v b", 7))
	check(t, "{{a -}} \f b", action("a", 0), text("\f b", 7))
	check(t, "{{a -}}\u00A0b", action("a", 0), text("\u00A0b", 7))
	// Those of the text behind alone.
	check(t, "{{a -}}{{b}} c", action("a", 0), action("b", 7), text(" c", 12))
	check(t, "{{a -}}{{/* b */}} c", action("a", 0), text(" c", 18))
	check(t, "{{a -}} b {{c}} d", action("a", 0), text("b ", 7), action("c", 10), text(" d", 15))
}

// TestTrimMarksWithoutAWord: the blanks behind a `{{`, or behind its trim mark, are left away ahead of the action, so that a `-` which stands next is the action's begin, not its end's mark.
func TestTrimMarksWithoutAWord(t *testing.T) {
	for _, c := range []struct {
		tag, want   string
		ahead, back bool
	}{
		{"{{-}}", "-", false, false},
		{"{{- }}", "", true, false},
		{"{{-  \n}}", "", true, false},
		{"{{ -}}", "-", false, false},
		{"{{ \n\t-}}", "-", false, false},
		{"{{ - }}", "-", false, false},
		{"{{- -}}", "-", true, false},
		{"{{-  -}}", "-", true, false},
		{"{{-\n\t-}}", "-", true, false},
		{"{{- - }}", "-", true, false},
		{"{{ - -}}", "-", false, true},
		{"{{- - -}}", "-", true, true},
		{"{{-- -}}", "--", false, true},
		{"{{--}}", "--", false, false},
		{"{{- --}}", "--", true, false},
		{"{{-a-}}", "-a-", false, false},
		{"{{-a -}}", "-a", false, true},
		{"{{- a-}}", "a-", true, false},
		{"{{- a -}}", "a", true, true},
		{"{{-\ta\n-}}", "a", true, true},
		{"{{-  a  -}}", "a", true, true},
	} {
		head, tail := "x \n", "\t y"
		if c.ahead {
			head = "x"
		}
		if c.back {
			tail = "y"
		}
		check(t, c.tag, action(c.want, 0))
		check(t, "x \n"+c.tag+"\t y", text(head, 0), action(c.want, 3), text(tail, 3+len(c.tag)))
	}
}

func TestTextsThatAreTrimmedAway(t *testing.T) {
	check(t, " {{- a}}", action("a", 1))
	check(t, "{{a -}} ", action("a", 0))
	check(t, "{{a -}} {{b}}", action("a", 0), action("b", 8))
	check(t, "{{a}} {{- b}}", action("a", 0), action("b", 6))
	check(t, "{{a -}} {{- b}}", action("a", 0), action("b", 8))
	check(t, "{{a -}} \n\t {{- b -}} \n {{- c}}", action("a", 0), action("b", 11), action("c", 23))
	check(t, "{{a -}} x {{- b}}", action("a", 0), text("x", 7), action("b", 10))
	check(t, "{{a -}}\n\n x \n y \t{{- b}}", action("a", 0), text("x \n y", 7), action("b", 17))
	check(t, "{{a -}}{{- b}}", action("a", 0), action("b", 7))
	check(t, " {{- /* a */ -}} ")
	check(t, " {{- /* a */ -}} {{- /* b */ -}} ")
	check(t, "\n{{- a -}}\n", action("a", 1))
	// At tells where a text begins ahead of trimming, and its Text how much of it stays.
	check(t, "{{a -}} \n\tb", action("a", 0), text("b", 7))
	check(t, "{{a -}}\r\n\r\n b{{c}}", action("a", 0), text("b", 7), action("c", 11))
	check(t, " b {{- a}}", text(" b", 0), action("a", 3))
}

func TestComments(t *testing.T) {
	for _, c := range []string{
		"{{/**/}}", "{{/* */}}", "{{/* a */}}", "{{/*a*/}}", "{{ /*a*/}}", "{{/*a*/ }}", "{{ \n\t/*a*/\t\n }}", "{{/*}}*/}}", "{{/*{{*/}}", "{{/* {{a}} */}}", "{{/*\"*/}}", "{{/*\\*/}}", "{{/*\"}}*/}}", "{{/***/}}", "{{/****/}}", "{{/* * / */}}", "{{/*/*/}}", "{{/* /* */}}", "{{/*-*/}}", "{{/* - */}}", "{{/*\x00\xffé*/}}", "{{/*\n\n*/}}", "{{/*- */}}", "{{/* -}} */}}",
	} {
		check(t, c)
		check(t, " a "+c+" b ", text(" a ", 0), text(" b ", 3+len(c)))
		check(t, "{{a}}"+c+"{{b}}", action("a", 0), action("b", 5+len(c)))
		check(t, c+c+"x"+c, text("x", 2*len(c)))
	}
}

func TestTrimMarksOfComments(t *testing.T) {
	for _, c := range []struct {
		tag         string
		ahead, back bool
	}{
		{"{{- /* c */}}", true, false},
		{"{{-\t/* c */}}", true, false},
		{"{{-\n  /* c */}}", true, false},
		{"{{/* c */ -}}", false, true},
		{"{{/* c */\n-}}", false, true},
		{"{{/* c */\t-}}", false, true},
		{"{{/* c */ \n\t -}}", false, true},
		{"{{ /* c */ -}}", false, true},
		{"{{- /* c */ -}}", true, true},
		{"{{-  /**/  -}}", true, true},
		{"{{- /*}}*/ }}", true, false},
		{"{{ /* c */ }}", false, false},
	} {
		head, tail := "x \n", "\t y"
		if c.ahead {
			head = "x"
		}
		if c.back {
			tail = "y"
		}
		n := len(c.tag)
		check(t, "x \n"+c.tag+"\t y", text(head, 0), text(tail, 3+n))
		check(t, "x \n"+c.tag+"\t y{{a}} z", text(head, 0), text(tail, 3+n), action("a", 6+n), text(" z", 11+n))
	}
	check(t, "a {{-/* c */}}", text("a ", 0), action("-/* c */", 2))
	check(t, "a {{-/* c }}", text("a ", 0), action("-/* c", 2))
	check(t, "a {{ - /* c */ -}} b", text("a ", 0), action("- /* c */", 2), text("b", 18))
	check(t, "a {{- - /* c */}}", text("a", 0), action("- /* c */", 2))
	// A mark of a comment does not reach across what stands behind it.
	check(t, "{{/* a */ -}}{{b}} c", action("b", 13), text(" c", 18))
	check(t, "{{a -}}{{/* b */}} c{{d}}", action("a", 0), text(" c", 18), action("d", 20))
	check(t, "{{/* a */ -}} {{/* b */}} c", text(" c", 25))
}

func TestCommentsWithoutAnEnd(t *testing.T) {
	for _, s := range []string{
		"{{/*", "{{/*}}", "{{/* a", "{{/* a }}", "{{/*/", "{{/*/}}", "{{/* *", "{{/* * /}}", "{{/* \"*\"/\" }}", "{{/* {{a}} }}",
		"{{/**/", "{{/**/ ", "{{/**/ -", "{{/**/}", "{{/**/ }", "{{/**/ -}", "{{/**/} }",
		"{{/**/x}}", "{{/**/ x}}", "{{/**/x }}", "{{/**/-}}", "{{/**/- }}", "{{/**/ - }}", "{{/**/ --}}", "{{/**/--}}", "{{/**/ -x}}", "{{/**/ - -}}", "{{/**/\f}}", "{{/**/\f-}}", "{{/**/\u00A0}}", "{{/**/\"\"}}", "{{/**/ /**/}}", "{{/**//**/}}", "{{/**/ | a}}", "{{/**/*/}}", "{{/* a */ */}}", "{{/* \" */ \" */}}",
	} {
		for _, begin := range []string{"{{", "{{ ", "{{- ", "{{-\n\t"} {
			tag := begin + s[2:]
			refuse(t, api.ErrLexOpen, tag, "a "+tag, "{{a}}"+tag, "{{/* a */}}"+tag)
		}
	}
	// What stands behind is none of its end.
	refuse(t, api.ErrLexOpen, "{{/**/x}}{{/**/}}", "{{/**/-}} {{a}}", "{{/**/\n{{a}}")
	check(t, "{{/*{{/**/}}") // the next `*/` ends the first
	check(t, "{{/*}}{{a*/}}b", text("b", 13))
}

func TestLongSources(t *testing.T) {
	for _, part := range []string{"x", "{", "}", " ", "\n", "\xff"} {
		if part != "{" {
			most := strings.Repeat(part, api.MaxText)
			check(t, most, text(most, 0))
		}
		refuse(t, api.ErrLexLong, strings.Repeat(part, api.MaxText+1))
	}
	// The bytes are counted ahead of the turning of 13s.
	check(t, strings.Repeat("\r\n", api.MaxText/2), text(strings.Repeat("\n", api.MaxText/2), 0))
	refuse(t, api.ErrLexLong, strings.Repeat("\r\n", api.MaxText/2)+"\r", strings.Repeat("\r\n", api.MaxText/2+1))
	// And of all: comments and blanks that are left away too.
	fill := strings.Repeat(" ", api.MaxText-len("{{- a}}"))
	check(t, fill+"{{- a}}", action("a", len(fill)))
	refuse(t, api.ErrLexLong, fill+" {{- a}}")
	fill = strings.Repeat("*", api.MaxText-len("{{//}}"))
	check(t, "{{/"+fill+"/}}")
	refuse(t, api.ErrLexLong, "{{/"+fill+"*/}}")
	fill = strings.Repeat("\t", api.MaxText-len("{{a}}"))
	check(t, "{{"+fill+"a}}", action("a", 0))
	check(t, "{{a"+fill+"}}", action("a", 0))
	refuse(t, api.ErrLexLong, "{{"+fill+"\ta}}")
}

func TestLongActions(t *testing.T) {
	most := strings.Repeat("a", api.MaxAction)
	for _, around := range [][2]string{{"{{", "}}"}, {"{{ ", " }}"}, {"{{- ", "}}"}, {"{{", " -}}"}, {"{{-  ", "\n\n-}}"}, {"{{\r\n", "\r}}"}, {"{{" + most + "}}{{", "}}"}} {
		head, tail := around[0], around[1]
		if got, e := Split(head + most + tail); e != api.OK || got[len(got)-1].Text != most {
			t.Errorf("P13.1: %q: %s, %d", around, shown(got), e)
		}
		refuse(t, api.ErrLexLong, head+most+"a"+tail, head+"-"+most+tail, head+most+most+tail, "x"+head+most+"a"+tail+"y", "{{a}}"+head+most+"a"+tail+"{{b}}")
	}
	quoted := `"` + strings.Repeat("}", api.MaxAction-2) + `"`
	check(t, "{{"+quoted+"}}", action(quoted, 0))
	refuse(t, api.ErrLexLong, "{{"+quoted+"a}}", "{{"+quoted+`""}}`)
	// Bytes are counted, behind the turning of 13s.
	wide := strings.Repeat("é", api.MaxAction/2)
	check(t, "{{"+wide+"}}", action(wide, 0))
	refuse(t, api.ErrLexLong, "{{"+wide+"a}}")
	check(t, "{{a"+strings.Repeat("\r\n", api.MaxAction-2)+"b}}", action("a"+strings.Repeat("\n", api.MaxAction-2)+"b", 0))
	refuse(t, api.ErrLexLong, "{{a"+strings.Repeat("\r\n", api.MaxAction-1)+"b}}")
	// Without a blank ahead the `-` is the action's.
	refuse(t, api.ErrLexLong, "{{"+most+"-}}", "{{-"+most+"}}")
	// Texts and comments may be longer.
	check(t, most+most+"{{/*"+most+most+"*/}}"+most+most, text(most+most, 0), text(most+most, 4*api.MaxAction+8))
}

// many gives a source of n pieces: actions and texts in turn, an action first.
func many(n int) string {
	return strings.Repeat("{{a}}b", n/2) + strings.Repeat("{{a}}", n%2)
}

func TestManyPieces(t *testing.T) {
	for _, n := range []int{api.MaxPieces - 1, api.MaxPieces} {
		for _, source := range []string{many(n), strings.Repeat("{{a}}", n), strings.Repeat("{{}}", n), many(n) + strings.Repeat("{{/**/}}", 100), strings.Repeat("x{{/**/}}", n), strings.Repeat(" {{- a -}} ", n)} {
			if got, e := Split(source); e != api.OK || len(got) != n {
				t.Errorf("P13.1: %.40q: %d pieces, %d, want %d", source, len(got), e, n)
			}
		}
	}
	for _, n := range []int{api.MaxPieces + 1, api.MaxPieces + 2, 2 * api.MaxPieces, 5 * api.MaxPieces} {
		refuse(t, api.ErrLexMany, many(n), strings.Repeat("{{a}}", n), strings.Repeat("{{}}", n), strings.Repeat("x{{/**/}}", n))
	}
	refuse(t, api.ErrLexMany, strings.Repeat("{{}}", api.MaxText/4), many(api.MaxPieces)+"{{a}}", many(api.MaxPieces+1), many(api.MaxPieces-1)+"x{{y}}", many(api.MaxPieces)+"{{/**/}}c")
	// A text that is trimmed away, and a comment, are no pieces.
	check(t, many(api.MaxPieces)+"{{/**/ -}} \n", splitOf(t, many(api.MaxPieces))...)
	refuse(t, api.ErrLexMany, many(api.MaxPieces)+"{{/**/ -}} \n.")
}

// splitOf gives the pieces of a source that has them.
func splitOf(t *testing.T, source string) []api.Piece {
	t.Helper()
	pieces, e := Split(source)
	if e != api.OK {
		t.Fatalf("%.40q: %d", source, e)
	}
	return pieces
}

// TestErrorsInTheirOrder: R6, wherever in the source each of them stands.
func TestErrorsInTheirOrder(t *testing.T) {
	long := "{{" + strings.Repeat("a", api.MaxAction+1) + "}}"
	lots := strings.Repeat("{{a}}", api.MaxPieces+1)
	whole := strings.Repeat("x", api.MaxText+1)
	refuse(t, api.ErrLexLong, whole+"{{", "{{"+whole, whole+lots, lots+whole, "{{/*"+whole, "{{\""+whole)
	for _, open := range []string{"{{", "{{a", "{{\"", "{{/*", "{{/**/-}}", "{{/**/x}}", "{{a}", "{{" + strings.Repeat("a", 2*api.MaxAction)} {
		refuse(t, api.ErrLexOpen, long+open, lots+open, long+lots+open, lots+long+open, "{{/*"+long+lots)
	}
	refuse(t, api.ErrLexLong, long, long+lots, lots+long, lots+long+lots, long+"{{a}}", "{{a}}"+long)
	refuse(t, api.ErrLexMany, lots, lots+"x", lots+"{{/**/}}")
}

// TestWhatIsAnsweredStandsAlone: R4, of texts and lists.
func TestWhatIsAnsweredStandsAlone(t *testing.T) {
	for _, s := range []string{"abc", "ab{{cd}}ef", "ab\r\n{{- cd -}}\r{{\"}}\"}}", strings.Repeat("x", 1000) + "{{y}}"} {
		room := []byte(s + "spare")
		source := unsafe.String(&room[0], len(s))
		first, second := splitOf(t, source), splitOf(t, source)
		want := splitOf(t, s)
		if string(room) != s+"spare" {
			t.Errorf("R4: %q: what is handed in is turned", s)
		}
		for i := range room {
			room[i] = '!'
		}
		if !slices.Equal(first, want) || !slices.Equal(second, want) {
			t.Errorf("R4: %q: %v, %v", s, first, second)
		}
		for i := range first {
			if unsafe.StringData(first[i].Text) == unsafe.StringData(second[i].Text) {
				t.Errorf("R4: %q: piece %d of two answers", s, i)
			}
			second[i] = api.Piece{}
		}
		second = append(second[:0], text("z", 1))
		if !slices.Equal(first, want) || !slices.Equal(splitOf(t, s), want) {
			t.Errorf("R4: %q: %v behind %v", s, first, second)
		}
	}
}

// TestCallsAtOneTime: R5, whatever was asked ahead, errors among it.
func TestCallsAtOneTime(t *testing.T) {
	sources := []string{"", "a", "a {{- b -}} c", "{{", "{{/* a */}}x", many(50), "{{\"", "a\r\n{{b}}", strings.Repeat("{{a}}", api.MaxPieces+1), "{{" + strings.Repeat("b", 300) + "}}"}
	type answer struct {
		pieces []api.Piece
		err    api.Errno
	}
	var wants []answer
	for _, s := range sources {
		pieces, e := Split(s)
		wants = append(wants, answer{pieces, e})
	}
	var all sync.WaitGroup
	for worker := range 8 {
		all.Go(func() {
			for i := range 500 {
				n := (i*7 + worker*3) % len(sources)
				if got, e := Split(sources[n]); e != wants[n].err || !slices.Equal(got, wants[n].pieces) {
					t.Errorf("R5: %.40q: %s, %d", sources[n], shown(got), e)
				}
			}
		})
	}
	all.Wait()
}

// TestEnds: R1, of the greatest sources, each of one part again and again.
func TestEnds(t *testing.T) {
	begin := time.Now()
	for _, part := range []string{
		"{", "}", "{{", "}}", "-", " ", "\"", "\\", "/*", "*/", "{{-", "{{- ", "{{ ", "{{a", "{{a -}}", "{{\"", "{{\"\\", "{{/*", "{{/**/", "{{/**/}}", "{{- /**/ -}}", " {{- a -}} ", "{{}}", "x{{a}}", "\r", "\r\n", "\r{{- -}}\n", "{{\"}}", "{{/*}}", "\xff", "{{a}} ", " {{/**/ -}}",
	} {
		for _, head := range []string{"", "{{", "{{- ", "{{\"", "{{/*", "{{a -}}", "{{/**/ -}}", "{{/**/"} {
			n := (api.MaxText - len(head)) / len(part)
			Split(head + strings.Repeat(part, n))
			Split(head + strings.Repeat(part, n*3))
		}
	}
	if spent := time.Since(begin); spent > 20*time.Second {
		t.Errorf("R1: %v", spent)
	}
}

func BenchmarkSplit(b *testing.B) {
	source := strings.Repeat("<p class=x> {{- .name -}} </p>{{/* c */}}\n", 300)
	for b.Loop() {
		Split(source)
	}
}
