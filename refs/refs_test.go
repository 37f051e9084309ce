package refs

import (
	"regexp"
	"strconv"
	"strings"
	"sync"
	"testing"
	"unicode/utf8"

	"stole/api"
	"stole/utf"
)

// bad is the sign for what is none.
const bad = "\xef\xbf\xbd"

func TestEncodeOfEdges(t *testing.T) {
	for _, c := range []struct{ name, in, want string }{
		{"empty", "", ""},
		{"ordinary", "Hello, World 09.", "Hello, World 09."},
		{"ampersand", "a&b", "a&amp;b"},
		{"less", "a<b", "a&lt;b"},
		{"greater", "a>b", "a&gt;b"},
		{"double quote", "a\"b", "a&quot;b"},
		{"single quote", "a'b", "a&#39;b"},
		{"byte 13", "a\r\nb", "a&#13;\nb"},
		{"all six", "&<>\"'\r", "&amp;&lt;&gt;&quot;&#39;&#13;"},
		{"six backwards, twice", "\r\r''\"\">><<&&", "&#13;&#13;&#39;&#39;&quot;&quot;&gt;&gt;&lt;&lt;&amp;&amp;"},
		{"a reference", "&lt;&#39;&#x41;", "&amp;lt;&amp;#39;&amp;#x41;"},
		{"all else stays", "\t\n\v\f `=/-{}|;#\x7f", "\t\n\v\f `=/-{}|;#\x7f"},
		{"long signs", "é\u00a0\u00a9\u2028\U0001F600" + bad, "é\u00a0\u00a9\u2028\U0001F600" + bad},
		{"byte 0", "<\x00>", "&lt;" + bad + "&gt;"},
		{"no UTF-8", "\xff&\xed\xa0\x80", bad + "&amp;" + bad + bad + bad},
		{"sign cut by a quote", "\xe2\x82\"", bad + bad + "&quot;"},
	} {
		if got := Encode(c.in); got != c.want {
			t.Errorf("%s: Encode(%q) = %q, want %q", c.name, c.in, got, c.want)
		}
	}
}

func TestEncodeOfEachByte(t *testing.T) {
	turned := map[byte]string{'&': "&amp;", '<': "&lt;", '>': "&gt;", '"': "&quot;", '\'': "&#39;", 13: "&#13;"}
	for b := range 256 {
		want, ok := turned[byte(b)]
		switch {
		case ok:
		case b == 0 || b > 127:
			want = bad
		default:
			want = string([]byte{byte(b)})
		}
		if got := Encode(string([]byte{byte(b)})); got != want {
			t.Errorf("Encode of the byte %d = %q, want %q", b, got, want)
		}
	}
}

func TestDecodeOfNames(t *testing.T) {
	for name, sign := range map[string]string{"amp": "&", "lt": "<", "gt": ">", "quot": "\"", "apos": "'", "nbsp": "\u00a0", "copy": "\u00a9"} {
		for in, want := range map[string]string{
			"&" + name + ";":                  sign,
			"a&" + name + ";b":                "a" + sign + "b",
			"&" + name + ";;":                 sign + ";",
			"&&" + name + ";":                 "&" + sign,
			"&" + name + ";&" + name + ";":    sign + sign,
			"&" + name:                        "&" + name,
			"&" + name + " ;":                 "&" + name + " ;",
			"& " + name + ";":                 "& " + name + ";",
			"&" + name + "s;":                 "&" + name + "s;",
			"&x" + name + ";":                 "&x" + name + ";",
			"&" + name[1:] + ";":              "&" + name[1:] + ";",
			"&" + name[:1] + ";":              "&" + name[:1] + ";",
			"&#" + name + ";":                 "&#" + name + ";",
			name + ";":                        name + ";",
			"&" + strings.ToUpper(name) + ";": "&" + strings.ToUpper(name) + ";",
			"&" + strings.ToUpper(name[:1]) + name[1:] + ";":             "&" + strings.ToUpper(name[:1]) + name[1:] + ";",
			"&" + name + "&" + name + ";":                                "&" + name + sign,
			"&" + name[:len(name)-1] + "\x00" + name[len(name)-1:] + ";": "&" + name[:len(name)-1] + "\x00" + name[len(name)-1:] + ";",
		} {
			if got := Decode(in); got != want {
				t.Errorf("Decode(%q) = %q, want %q", in, got, want)
			}
		}
	}
}

func TestDecodeOfEdges(t *testing.T) {
	for _, c := range []struct{ name, in, want string }{
		{"empty", "", ""},
		{"ordinary", "Hello; #65 x41", "Hello; #65 x41"},
		{"once only", "&amp;lt;&amp;#65;&#38;lt;", "&lt;&#65;&lt;"},
		{"unknown names", "&eacute;&;&amp1;&hellip;", "&eacute;&;&amp1;&hellip;"},
		{"lone", "&", "&"},
		{"lone at the end", "a&", "a&"},
		{"tens, least", "&#9;", "\t"},
		{"tens, most digits", "&#0000065;", "A"},
		{"tens, one digit more", "&#00000065;", "&#00000065;"},
		{"tens, far more digits", "&#" + strings.Repeat("0", 40) + "65;", "&#" + strings.Repeat("0", 40) + "65;"},
		{"sixteens, least", "&#x9;&#XA;", "\t\n"},
		{"sixteens, most digits", "&#x000041;&#X00004a;", "AJ"},
		{"sixteens, one digit more", "&#x0000041;&#X000004A;", "&#x0000041;&#X000004A;"},
		{"either case", "&#xe9;&#xE9;&#XfF;&#xaBcDeF;&#xabcd;&#xEFef;", "ééÿ" + bad + "\uabcd\uefef"},
		{"digits of sixteen in tens", "&#4a;&#a;&#f;", "&#4a;&#a;&#f;"},
		{"beside the digits", "&#x/;&#x:;&#x@;&#xG;&#x`;&#xg;&#/;&#:;", "&#x/;&#x:;&#x@;&#xG;&#x`;&#xg;&#/;&#:;"},
		{"no digit", "&#;&#x;&#X;&# 5;&#x 5;&#-5;&#+5;&#xx5;", "&#;&#x;&#X;&# 5;&#x 5;&#-5;&#+5;&#xx5;"},
		{"no end", "&#65 &#x41 &#65,&#x41", "&#65 &#x41 &#65,&#x41"},
		{"cut off", "&#", "&#"},
		{"cut off behind x", "&#x", "&#x"},
		{"cut off in digits", "&#0000065", "&#0000065"},
		{"of 0", "&#0;&#0000000;&#x0;&#x000000;", bad + bad + bad + bad},
		{"of 1", "&#1;&#x1;", "\x01\x01"},
		{"of surrogates", "&#55296;&#57343;&#xD800;&#xdbff;&#xDC00;&#xdfff;", strings.Repeat(bad, 6)},
		{"a pair of surrogates", "&#xD83D;&#xDE00;", bad + bad},
		{"beside surrogates", "&#55295;&#57344;&#xD7FF;&#xE000;", "\ud7ff\ue000\ud7ff\ue000"},
		{"at U+10FFFF", "&#1114111;&#x10FFFF;&#X10ffff;", "\U0010FFFF\U0010FFFF\U0010FFFF"},
		{"above U+10FFFF", "&#1114112;&#x110000;&#9999999;&#xFFFFFF;", bad + bad + bad + bad},
		{"of byte 13", "&#13;&#xD;", "\r\r"},
		{"directly behind another", "&&lt;&#&#65;&#x&gt;&#6&#65;&am&amp;", "&<&#A&#x>&#6A&am&"},
		{"no UTF-8 and byte 0 stay", "\xff\x00&lt;\xed\xa0\x80&am\x00p;&\xe2lt;", "\xff\x00<\xed\xa0\x80&am\x00p;&\xe2lt;"},
		{"digits of other scripts", "&#\u0661;", "&#\u0661;"},
	} {
		if got := Decode(c.in); got != c.want {
			t.Errorf("%s: Decode(%q) = %q, want %q", c.name, c.in, got, c.want)
		}
	}
}

// signFor is what a reference to a number stands for.
func signFor(n int) string {
	if n == 0 || n > utf8.MaxRune || n >= 0xd800 && n <= 0xdfff {
		return bad
	}
	return string(rune(n))
}

func TestDecodeOfNumbers(t *testing.T) {
	for n := 0; n < 0x120000; n += 7 {
		s := "&#" + strconv.Itoa(n) + ";&#x" + strconv.FormatInt(int64(n), 16) + ";"
		if got, want := Decode(s), signFor(n)+signFor(n); got != want {
			t.Fatalf("Decode(%q) = %q, want %q", s, got, want)
		}
	}
}

// decodeSlowly is Decode by a pattern.
func decodeSlowly(s string) string {
	signs := map[string]string{"amp": "&", "lt": "<", "gt": ">", "quot": "\"", "apos": "'", "nbsp": "\u00a0", "copy": "\u00a9"}
	return pattern.ReplaceAllStringFunc(s, func(ref string) string {
		body := ref[1 : len(ref)-1]
		if sign, ok := signs[body]; ok {
			return sign
		}
		base, digits := 10, body[1:]
		if digits[0] == 'x' || digits[0] == 'X' {
			base, digits = 16, digits[1:]
		}
		n, err := strconv.ParseInt(digits, base, 64)
		if err != nil {
			panic(err)
		}
		return signFor(int(n))
	})
}

var pattern = regexp.MustCompile(`&(?:amp|lt|gt|quot|apos|nbsp|copy|#[0-9]{1,7}|#[xX][0-9a-fA-F]{1,6});`)

// eachRow calls f with each row of at most n of the parts.
func eachRow(parts []string, n int, f func(string)) {
	var grow func(string, int)
	grow = func(s string, left int) {
		f(s)
		if left == 0 {
			return
		}
		for _, p := range parts {
			grow(s+p, left-1)
		}
	}
	grow("", n)
}

func TestDecodeOfRows(t *testing.T) {
	parts := []string{"&", "#", "x", "X", "0", "65", "aF", "000", "lt", "amp", ";", "\xff", "D800"}
	eachRow(parts, 5, func(s string) {
		if got, want := Decode(s), decodeSlowly(s); got != want {
			t.Fatalf("Decode(%q) = %q, want %q", s, got, want)
		}
	})
}

func TestDecodeOfEncode(t *testing.T) {
	check := func(s string) {
		if got, want := Decode(Encode(s)), utf.Norm(s); got != want {
			t.Fatalf("Decode(Encode(%q)) = %q, want %q", s, got, want)
		}
	}
	for r := range rune(utf8.MaxRune + 1) {
		check(string(r))
	}
	eachRow([]string{"&", "<", ">", "\"", "'", "\r", "a", "amp;", "#39;", "\x00", "\xff", "é", "\xe2\x82"}, 4, check)
}

func TestLongTexts(t *testing.T) {
	for _, part := range []string{"&", "&#", "&#0", "&#x", "&#x0", "&am", "0", "<", "&lt;", "\xff"} {
		for _, lead := range []string{"", "&#", "&#x", "&"} {
			s := lead + strings.Repeat(part, api.MaxText/len(part))
			if got, want := Decode(Encode(s)), utf.Norm(s); got != want {
				t.Errorf("%q, and %q many times: Decode of Encode is not Norm", lead, part)
			}
			if Decode(s) != decodeSlowly(s) {
				t.Errorf("%q, and %q many times: Decode is wrong", lead, part)
			}
		}
	}
}

func TestCallsFromGoroutines(t *testing.T) {
	s := strings.Repeat("a&<'\r\x00\xff&copy;&#65;", 50)
	encoded, decoded := Encode(s), Decode(s)
	var all sync.WaitGroup
	for range 8 {
		all.Add(1)
		go func() {
			defer all.Done()
			for range 20 {
				if Encode(s) != encoded || Decode(s) != decoded {
					t.Error("answers differ between goroutines")
				}
			}
		}()
	}
	all.Wait()
}
