package words

import (
	"fmt"
	"slices"
	"strconv"
	"strings"
	"sync"
	"testing"
	"time"
	"unsafe"

	"stole/api"
)

const (
	letters   = "ABCDEFGHIJKLMNOPQRSTUVWXYZabcdefghijklmnopqrstuvwxyz"
	digits    = "0123456789"
	nameBytes = letters + digits + "_"
)

func name(s string) api.Word { return api.Word{Kind: api.WordName, Text: s} }

func text(s string) api.Word { return api.Word{Kind: api.WordText, Text: s} }

func number(n int) api.Word { return api.Word{Kind: api.WordInt, Int: n} }

func field(path ...string) api.Word { return api.Word{Kind: api.WordField, Path: path} }

func variable(s string, path ...string) api.Word {
	return api.Word{Kind: api.WordVar, Text: s, Path: path}
}

func pipe() api.Word { return api.Word{Kind: api.WordPipe} }

func assign() api.Word { return api.Word{Kind: api.WordSet} }

// shown gives the begin of what an answer is.
func shown(ws []api.Word) string { return fmt.Sprintf("%.300s", fmt.Sprintf("%+v", ws)) }

func same(a, b []api.Word) bool {
	return slices.EqualFunc(a, b, func(v, w api.Word) bool {
		return v.Kind == w.Kind && v.Text == w.Text && v.Int == w.Int && slices.Equal(v.Path, w.Path)
	})
}

// check holds Words of an action against the words that are wanted.
func check(t *testing.T, action string, want ...api.Word) {
	t.Helper()
	if got, e := Words(action); e != api.OK || !same(got, want) {
		t.Errorf("P14.1: Words(%.200q) = %s, %d, want %s", action, shown(got), e, shown(want))
	}
}

// refuse holds Words of actions against an error, with no word beside it (R2).
func refuse(t *testing.T, want api.Errno, actions ...string) {
	t.Helper()
	for _, action := range actions {
		if got, e := Words(action); len(got) != 0 || e != want {
			t.Errorf("P14.1, R2: Words(%.200q) = %s, %d, want %d", action, shown(got), e, want)
		}
	}
}

// samples are words, and the bytes that go on with each of them.
var samples = []struct {
	action string
	word   api.Word
	goesOn string
}{
	{"a", name("a"), nameBytes},
	{"_", name("_"), nameBytes},
	{"Z9_", name("Z9_"), nameBytes},
	{".", field(), letters + "_"},
	{".a", field("a"), nameBytes},
	{".a._.B1", field("a", "_", "B1"), nameBytes},
	{"$a", variable("a"), nameBytes},
	{"$_.a.b", variable("_", "a", "b"), nameBytes},
	{"0", number(0), digits},
	{"-12", number(-12), digits},
	{`""`, text(""), ""},
	{`"a |"`, text("a |"), ""},
	{":=", assign(), ""},
}

func TestBlanks(t *testing.T) {
	check(t, "")
	blanks := []string{" ", "\t", "\n", "  ", "\t\n", " \t\n \n\t ", strings.Repeat("\n", 1000)}
	for _, blank := range blanks {
		check(t, blank)
		check(t, blank+"|"+blank, pipe())
		for _, v := range samples {
			check(t, blank+v.action, v.word)
			check(t, v.action+blank, v.word)
			for _, w := range samples {
				check(t, v.action+blank+w.action, v.word, w.word)
				check(t, blank+v.action+blank+w.action+blank+"|"+blank+v.action+blank, v.word, w.word, pipe(), v.word)
			}
		}
	}
}

// TestOtherBytesAreNoBlanks: none but 9, 10 and 32, though it may look like one.
func TestOtherBytesAreNoBlanks(t *testing.T) {
	for _, s := range []string{"\v", "\f", "\r", "\x00", "\b", "\x1c", "\x1f", "\x7f", "\x85", "\xa0", "\u0085", "\u00a0", "\u2003", "\u2028", "\u3000", "\ufeff", "\r\n"} {
		refuse(t, api.ErrWordsForm, s, " "+s, s+" ", "|"+s, s+"|")
		for _, v := range samples {
			refuse(t, api.ErrWordsForm, s+v.action, v.action+s, v.action+s+v.action, v.action+" "+s, v.action+" "+s+" "+v.action, v.action+s+" "+v.action)
		}
	}
}

// TestEachByteAlone: which word it is or begins.
func TestEachByteAlone(t *testing.T) {
	for b := range 256 {
		s := string([]byte{byte(b)})
		switch {
		case strings.Contains(" \t\n", s):
			check(t, s)
		case strings.Contains(letters+"_", s):
			check(t, s, name(s))
		case strings.Contains(digits, s):
			check(t, s, number(b-'0'))
		case s == ".":
			check(t, s, field())
		case s == "|":
			check(t, s, pipe())
		case s == "-":
			refuse(t, api.ErrWordsInt, s, s+" ", s+"|", " "+s, "|"+s)
		case s == `"`:
			refuse(t, api.ErrWordsText, s, s+" ", s+"|", " "+s, "|"+s)
		default:
			refuse(t, api.ErrWordsForm, s, s+" ", s+"|", " "+s, "|"+s, "a "+s+" b")
		}
	}
}

// TestEachByteBehindAWord: a blank, a `|`, or one of the word.
func TestEachByteBehindAWord(t *testing.T) {
	for _, v := range samples {
		check(t, v.action, v.word)
		for b := range 256 {
			s := string([]byte{byte(b)})
			switch {
			case strings.Contains(" \t\n", s):
				check(t, v.action+s, v.word)
				check(t, v.action+s+"a", v.word, name("a"))
			case s == "|":
				check(t, v.action+s, v.word, pipe())
				check(t, v.action+s+"a", v.word, pipe(), name("a"))
			case strings.Contains(v.goesOn, s):
				if got, e := Words(v.action + s); e != api.OK || len(got) != 1 || got[0].Kind != v.word.Kind {
					t.Errorf("P14.1: Words(%q) = %s, %d, want a word", v.action+s, shown(got), e)
				}
			default:
				refuse(t, api.ErrWordsForm, v.action+s, v.action+s+" ", "a|"+v.action+s+"|", v.action+s+v.action)
			}
		}
	}
}

// TestPipes: a word needs no blank beside one.
func TestPipes(t *testing.T) {
	check(t, "|", pipe())
	check(t, "||", pipe(), pipe())
	check(t, "| |\n|", pipe(), pipe(), pipe())
	check(t, strings.Repeat("|", 100), slices.Repeat([]api.Word{pipe()}, 100)...)
	check(t, "a|b", name("a"), pipe(), name("b"))
	check(t, " a | b ", name("a"), pipe(), name("b"))
	check(t, "a||b", name("a"), pipe(), pipe(), name("b"))
	for _, v := range samples {
		check(t, "|"+v.action, pipe(), v.word)
		check(t, v.action+"|", v.word, pipe())
		check(t, "||"+v.action+"||", pipe(), pipe(), v.word, pipe(), pipe())
		check(t, "| "+v.action+" |", pipe(), v.word, pipe())
		for _, w := range samples {
			check(t, v.action+"|"+w.action, v.word, pipe(), w.word)
		}
	}
	refuse(t, api.ErrWordsForm, "|?", "a|=", "|:", "|'", "&|")
}

func TestSets(t *testing.T) {
	check(t, ":=", assign())
	check(t, ":= :=", assign(), assign())
	check(t, "|:=|", pipe(), assign(), pipe())
	check(t, ":=|:=", assign(), pipe(), assign())
	check(t, "$a := .b", variable("a"), assign(), field("b"))
	check(t, "$a\n:=\t1", variable("a"), assign(), number(1))
	refuse(t, api.ErrWordsForm,
		":", "=", ": =", "=:", "::", "==", ":=:", ":==", ":=:=", ":=a", ":=1", ":=-1", ":=.", ":=$a", `:=""`, `:="`, "a:=", "$a:=1", "$a:= 1", "$a :=1", "1:=", ".:=", `"":=`, ":|=", "|:", "|=", ": ", "a : b", "a = b", ":\n=", ":-=")
}

func TestTexts(t *testing.T) {
	for _, c := range []struct{ action, want string }{
		{`""`, ""},
		{`"a"`, "a"},
		{`" "`, " "},
		{`"a b"`, "a b"},
		{`"|"`, "|"},
		{`":= .a $b 1 -"`, ":= .a $b 1 -"},
		{`"'"`, "'"},
		{"\"`\"", "`"},
		{`"\""`, `"`},
		{`"\\"`, `\`},
		{`"\n"`, "\n"},
		{`"\t"`, "\t"},
		{`"\"\\\n\t"`, "\"\\\n\t"},
		{`"\\n"`, `\n`},
		{`"\\\n"`, "\\\n"},
		{`"\\\\"`, `\\`},
		{`"\\\""`, `\"`},
		{`"\"a\""`, `"a"`},
		{`"\nn\tt"`, "\nn\tt"},
		{"\"\n\t\"", "\n\t"},
		{"\"\r\n\"", "\r\n"},
		{"\"\x00\"", "\x00"},
		{"\"\xff\x80\xc3\"", "\xff\x80\xc3"},
		{"\"\xed\xa0\x80\"", "\xed\xa0\x80"},
		{"\"é\u2028\ufffd\U0001F600\"", "é\u2028\ufffd\U0001F600"},
		{`"{{ }}"`, "{{ }}"},
	} {
		check(t, c.action, text(c.want))
		check(t, " "+c.action+" "+c.action+"|"+c.action, text(c.want), text(c.want), pipe(), text(c.want))
		refuse(t, api.ErrWordsForm, c.action+c.action, c.action+"a", "a"+c.action, c.action+"1", "1"+c.action, c.action+".", c.action+"\\")
		refuse(t, api.ErrWordsText, c.action[:len(c.action)-1], c.action+` "`, c.action+"|"+c.action[:len(c.action)-1])
	}
}

// TestEachByteOfAText: each stays as it is but the `"` and the `\`, which takes four bytes behind it, and no other one.
func TestEachByteOfAText(t *testing.T) {
	meant := map[string]string{`"`: `"`, `\`: `\`, "n": "\n", "t": "\t"}
	for b := range 256 {
		s := string([]byte{byte(b)})
		switch s {
		case `"`:
			refuse(t, api.ErrWordsForm, `"`+s+`"`, `"a`+s+`b"`)
		case `\`:
			refuse(t, api.ErrWordsText, `"`+s+`"`, `"a`+s+`b"`, `"`+s)
		default:
			check(t, `"`+s+`"`, text(s))
			check(t, `"a`+s+`b`+s+`" c`, text("a"+s+"b"+s), name("c"))
		}
		if c, is := meant[s]; is {
			check(t, `"\`+s+`"`, text(c))
			check(t, `"a\`+s+`b\`+s+`"|`, text("a"+c+"b"+c), pipe())
			refuse(t, api.ErrWordsText, `"\`+s, `"a\`+s+`b`)
		} else {
			refuse(t, api.ErrWordsText, `"\`+s+`"`, `"a\`+s+`b"`, `"\`+s, `a|"\\\`+s+`" b`)
		}
	}
}

func TestTextsWithoutAnEnd(t *testing.T) {
	for _, s := range []string{`"`, `"a`, `"a b|c`, `"\"`, `"\`, `"a\`, `"\\`, `"\\\`, `"\\\"`, `"\n`, `"\t\`, `"'`, "\"\n", "\"\xff", "\"\x00"} {
		refuse(t, api.ErrWordsText, s, " "+s, "|"+s, "a "+s, `"" `+s, ".a|"+s, "$a := "+s)
	}
	for _, s := range []string{`"\r"`, `"\a"`, `"\0"`, `"\x41"`, `"\u0041"`, `"\'"`, `"\/"`, `"\ "`, `"\N"`, `"\T"`, "\"\\\n\"", "\"\\\t\"", "\"\\\xff\"", `"\é"`} {
		refuse(t, api.ErrWordsText, s, s+" a", s+"?", "a|"+s)
	}
}

func TestNumbers(t *testing.T) {
	for _, n := range []int{0, 1, 7, 9, 10, 99, 100, 255, 65536, 1 << 31, 1 << 32, 1234567890123456, api.MaxInt / 10, api.MaxInt - 1, api.MaxInt} {
		s := strconv.Itoa(n)
		for _, zeros := range []int{0, 1, 2, 16, 20, 1000} {
			check(t, strings.Repeat("0", zeros)+s, number(n))
			check(t, "-"+strings.Repeat("0", zeros)+s, number(-n))
		}
		check(t, s+" -"+s+"|"+s, number(n), number(-n), pipe(), number(n))
	}
	check(t, "-0", number(0))
	check(t, "-000", number(0))
	check(t, "007", number(7))
	refuse(t, api.ErrWordsForm, "0x1", "1e1", "1.", "1.5", "1_0", "1a", "1-", "1-1", "1+1", "+1", "1,", "1$a", "1:=", `1"`, "-1-", "-0.", "-1a", "²", "٣", "1\xff", "1\x00")
}

// TestNumbersThatAreTooGreat: one more than MaxInt, and those that come back to small ones in 64 bits.
func TestNumbersThatAreTooGreat(t *testing.T) {
	for _, s := range []string{
		"9007199254740992", "9007199254740993", "9007199254741000", "9007199254750000", "9999999999999999", "10000000000000000", "90071992547409910",
		"9223372036854775807", "9223372036854775808", "9223372036854775809", "18446744073709551615", "18446744073709551616", "18446744073709551617", "36893488147419103233", "340282366920938463463374607431768211457",
		strings.Repeat("9", 200), "1" + strings.Repeat("0", 100), "2" + strings.Repeat("0", 1000) + "1", strings.Repeat("123456789", 10000),
	} {
		for _, zeros := range []string{"", "0", strings.Repeat("0", 100)} {
			refuse(t, api.ErrWordsInt, zeros+s, "-"+zeros+s, zeros+s+" ", "a|"+zeros+s+"|b", "- "+s)
			// It is too great ahead of the byte behind it.
			refuse(t, api.ErrWordsInt, zeros+s+"a", "-"+zeros+s+".", zeros+s+`"`, zeros+s+"?")
		}
	}
}

func TestMinusAlone(t *testing.T) {
	refuse(t, api.ErrWordsInt, "-", "--", "--1", "- 1", "-\n1", "-a", "-_", "-.", "-.1", "-$a", "-|", `-"1"`, `-"`, "-:=", "-?", "-\xff", "-\x00", "-\r", "a -", "a|-", "1 -", `"" - ""`, "-+1", "-²")
}

func TestNames(t *testing.T) {
	for _, s := range []string{"a", "Z", "_", "__", "_1", "a1", "aB_9", "if", "true", "null", "template", "A_b_C", strings.Repeat("n", api.MaxName), strings.Repeat("_", api.MaxName), "a" + strings.Repeat("9", api.MaxName-1)} {
		check(t, s, name(s))
		check(t, s+" "+s+"|"+s, name(s), name(s), pipe(), name(s))
		check(t, "."+s, field(s))
		check(t, "."+s+"."+s, field(s, s))
		check(t, "$"+s, variable(s))
		check(t, "$"+s+"."+s+"."+s, variable(s, s, s))
		refuse(t, api.ErrWordsForm, s+".", s+".a", s+"$", s+"$a", s+"-", s+"-1", s+":=", s+`"`, s+`""`, s+"é", s+"\xff", s+"\x00", s+"?", s+"\\")
	}
	refuse(t, api.ErrWordsForm, "é", "aé", "ªb", "a·b", "ＡＢ", "\xff", "a\xffb", "@", "[", "`", "{", "/", "a,b", "a;", "(a)", "#", "'a'", "a'", "a=b", "a:b")
}

func TestNamesThatAreTooLong(t *testing.T) {
	for _, n := range []int{api.MaxName + 1, api.MaxName + 2, 2 * api.MaxName, 1000, api.MaxText} {
		for _, s := range []string{strings.Repeat("n", n), strings.Repeat("_", n), "a" + strings.Repeat("0", n-1)} {
			refuse(t, api.ErrWordsForm, s, "."+s, "$"+s, ".a."+s, "$a."+s, "."+s+".a", "$"+s+".a", s+" ", s+"|", "a "+s, s+` "`, s+" -")
		}
	}
}

// TestNamesOfEachByte: at the begin and behind it, in each of the three words.
func TestNamesOfEachByte(t *testing.T) {
	for b := range 256 {
		s := string([]byte{byte(b)})
		if strings.Contains(letters+"_", s) {
			check(t, s+"a", name(s+"a"))
			check(t, "."+s, field(s))
			check(t, ".a."+s, field("a", s))
			check(t, "$"+s, variable(s))
			check(t, "$a."+s, variable("a", s))
		} else {
			refuse(t, api.ErrWordsForm, "$"+s, "$"+s+"a", "$a."+s, "$a."+s+"a", ".a."+s, ".a."+s+"a")
		}
		if strings.Contains(nameBytes, s) {
			check(t, "a"+s+"b", name("a"+s+"b"))
			check(t, ".a"+s, field("a"+s))
			check(t, "$a"+s+".b"+s, variable("a"+s, "b"+s))
		}
	}
}

func TestFields(t *testing.T) {
	check(t, ".", field())
	check(t, ". .", field(), field())
	check(t, ".|.", field(), pipe(), field())
	check(t, ".a", field("a"))
	check(t, ".a.b", field("a", "b"))
	check(t, ".a .b", field("a"), field("b"))
	check(t, ". a", field(), name("a"))
	check(t, ".a|.b.c|.", field("a"), pipe(), field("b", "c"), pipe(), field())
	check(t, "._._1.A", field("_", "_1", "A"))
	refuse(t, api.ErrWordsForm,
		"..", "...", ".a.", ".a..b", "..a", ".1", ".1a", ".a.1", ".-1", ".-", ".$a", ".a$b", `."a"`, `.""`, `.a"b"`, ".:=", ".a:=", ".a. b", ".a.|", ".a.\n", ".?", ".a?", ".\x00", ".é", ".a.é", ".a-b", ".[0]")
}

func TestVariables(t *testing.T) {
	check(t, "$a", variable("a"))
	check(t, "$a.b", variable("a", "b"))
	check(t, "$a.b.c $d", variable("a", "b", "c"), variable("d"))
	check(t, "$a .b", variable("a"), field("b"))
	check(t, "$a|$b", variable("a"), pipe(), variable("b"))
	check(t, "$_", variable("_"))
	refuse(t, api.ErrWordsForm,
		"$", "$ ", "$ a", "$|", "$$", "$$a", "$.", "$.a", "$1", "$1a", "$-", "$-1", `$""`, `$"a"`, "$:=", "$a.", "$a.|", "$a. b", "$a..b", "$a.1", "$a.$b", "$a$b", "$a:=", "$a-", `$a""`, "$a?", "$é", "$aé", "$\x00", "a$", "$\n")
}

func TestPaths(t *testing.T) {
	long := strings.Repeat("n", api.MaxName)
	for n := 1; n <= api.MaxPath; n++ {
		for _, s := range []string{"a", "_9", long} {
			path := slices.Repeat([]string{s}, n)
			action := "." + strings.Join(path, ".")
			check(t, action, field(path...))
			check(t, "$v"+action, variable("v", path...))
			check(t, "$"+long+action+"|"+action+" "+action, variable(long, path...), pipe(), field(path...), field(path...))
			refuse(t, api.ErrWordsForm, action+".", "$v"+action+".", action+". a", "$v"+action+".|", action+"..a", "a"+action, "1"+action, `""`+action)
		}
	}
	for _, n := range []int{api.MaxPath + 1, api.MaxPath + 2, 100, api.MaxText} {
		action := strings.Repeat(".a", n)
		refuse(t, api.ErrWordsForm, action, "$v"+action, action+" ", action+"|a", "a "+action, "$v"+action+` "`)
	}
	// A variable's own name is none of its Path.
	check(t, "$i.a.b.c.d.e.f.g.h", variable("i", "a", "b", "c", "d", "e", "f", "g", "h"))
	refuse(t, api.ErrWordsForm, ".i.a.b.c.d.e.f.g.h")
}

// TestTheFirstError: from the left on, whatever stands behind it.
func TestTheFirstError(t *testing.T) {
	faults := []struct {
		action string
		err    api.Errno
	}{
		{"?", api.ErrWordsForm}, {"a?", api.ErrWordsForm}, {"1a", api.ErrWordsForm}, {"..", api.ErrWordsForm}, {"$", api.ErrWordsForm}, {":", api.ErrWordsForm}, {`""a`, api.ErrWordsForm}, {strings.Repeat("n", api.MaxName+1), api.ErrWordsForm}, {strings.Repeat(".a", api.MaxPath+1), api.ErrWordsForm},
		{`"\q"`, api.ErrWordsText}, {`"\q"?`, api.ErrWordsText}, {`"\q" `, api.ErrWordsText},
		{"-", api.ErrWordsInt}, {"-?", api.ErrWordsInt}, {"-a", api.ErrWordsInt}, {"9007199254740992", api.ErrWordsInt}, {"9007199254740992?", api.ErrWordsInt},
	}
	for _, f := range faults {
		for _, ahead := range []string{"", " ", "|", "a ", ". ", "$a := ", "1|", `"a" `} {
			refuse(t, f.err, ahead+f.action)
			for _, g := range faults {
				refuse(t, f.err, ahead+f.action+" "+g.action, ahead+f.action+"|"+g.action, ahead+f.action+` "`)
			}
		}
	}
	// A text that does not end takes all behind it with it.
	refuse(t, api.ErrWordsText, `"a ? - 1`, `"a ? \"`, `"" "?`)
	refuse(t, api.ErrWordsForm, `"a"? -`, `"a"\`, `? "`, `a" -`)
	refuse(t, api.ErrWordsInt, `- "`, `-"\q"`, `1 -"`)
}

// TestRealActions: words as templates have them.
func TestRealActions(t *testing.T) {
	check(t, "if eq .kind \"a\"", name("if"), name("eq"), field("kind"), text("a"))
	check(t, "range .items | index 0", name("range"), field("items"), pipe(), name("index"), number(0))
	check(t, "$total := cat .a \", \" $b.name|len", variable("total"), assign(), name("cat"), field("a"), text(", "), variable("b", "name"), pipe(), name("len"))
	check(t, "template \"row-1\" .", name("template"), text("row-1"), field())
	check(t, "else", name("else"))
	check(t, "index .list -1\n\t| not", name("index"), field("list"), number(-1), pipe(), name("not"))
}

func wordsOf(t *testing.T, action string) []api.Word {
	t.Helper()
	ws, e := Words(action)
	if e != api.OK {
		t.Fatalf("%.40q: %d", action, e)
	}
	return ws
}

// TestWhatIsAnsweredStandsAlone: R4, of names, texts and lists.
func TestWhatIsAnsweredStandsAlone(t *testing.T) {
	const action = "a .b.c $d.e.f 12 \"gh\" | := . \"\" .i.j.k.l.m"
	room := []byte(action + "spare")
	handed := unsafe.String(&room[0], len(action))
	first, second, want := wordsOf(t, handed), wordsOf(t, handed), wordsOf(t, action)
	if string(room) != action+"spare" {
		t.Error("R4: what is handed in is turned")
	}
	for i := range room {
		room[i] = '!'
	}
	if !same(first, want) || !same(second, want) {
		t.Errorf("R4: %s, %s", shown(first), shown(second))
	}
	for i, w := range second {
		if w.Text != "" && unsafe.StringData(w.Text) == unsafe.StringData(first[i].Text) {
			t.Errorf("R4: word %d of two answers", i)
		}
		for n, s := range w.Path {
			if unsafe.StringData(s) == unsafe.StringData(first[i].Path[n]) {
				t.Errorf("R4: name %d of word %d of two answers", n, i)
			}
		}
	}
	for i := range second {
		// What is put behind a Path, up to its spare room's end, stands in no other one.
		path := second[i].Path
		for cap(path) > len(path) {
			path = append(path, "!")
		}
		for n := range path {
			path[n] = "!"
		}
		second[i] = api.Word{}
		if !same(second[i+1:], want[i+1:]) {
			t.Errorf("R4: %s behind word %d", shown(second), i)
		}
	}
	if !same(first, want) || !same(wordsOf(t, action), want) {
		t.Errorf("R4: %s", shown(first))
	}
}

// TestCallsAtOneTime: R5, whatever was asked ahead, errors among it.
func TestCallsAtOneTime(t *testing.T) {
	actions := []string{"", "a", ".a.b|c", "$a := -1", `"\"a\n"`, "?", "-", `"`, `"\q"`, strings.Repeat("n", 33), "9007199254740992", strings.Repeat("a|", 100), strings.Repeat(".a ", 100) + ".."}
	type answer struct {
		ws  []api.Word
		err api.Errno
	}
	var wants []answer
	for _, s := range actions {
		ws, e := Words(s)
		wants = append(wants, answer{ws, e})
	}
	var all sync.WaitGroup
	for worker := range 8 {
		all.Go(func() {
			for i := range 500 {
				n := (i*7 + worker*3) % len(actions)
				if got, e := Words(actions[n]); e != wants[n].err || !same(got, wants[n].ws) {
					t.Errorf("R5: %.40q: %s, %d", actions[n], shown(got), e)
				}
			}
		})
	}
	all.Wait()
}

// TestEnds: R1, of great actions, each of one part again and again.
func TestEnds(t *testing.T) {
	begin := time.Now()
	for _, part := range []string{
		" ", "\n", "|", ":=", ":= ", ":", "=", `"`, `""`, `"" `, `"a\n" `, `\`, `\"`, `"\`, "-", "- ", "-1 ", "0", "0 ", "9", "9 ", ".", ". ", ".a", ".a ", ".a.", "$", "$a", "$a ", "$a.b|", "n", "n ", "_", "é", "\x00", "\xff", "?", "\r", "a|",
	} {
		for _, head := range []string{"", " ", "a", "a ", `"`, `"\`, "-", "-0", "1", ".", ".a", "$", "$a", ":", "|"} {
			hold(t, head+strings.Repeat(part, 200))
			Words(head + strings.Repeat(part, api.MaxText/len(part)))
		}
	}
	if spent := time.Since(begin); spent > 20*time.Second {
		t.Errorf("R1: %v", spent)
	}
}

func BenchmarkWords(b *testing.B) {
	action := strings.Repeat("$a := cat .b.c \"d\\n\" -12 | len | ", 7)
	for b.Loop() {
		Words(action)
	}
}
