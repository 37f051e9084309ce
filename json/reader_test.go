package json

import (
	ejson "encoding/json"
	"fmt"
	"math/big"
	"math/rand"
	"reflect"
	"regexp"
	"strings"
	"testing"
	"time"
	"unicode/utf8"

	"stole/api"
	"stole/value"
)

func checkGet(t *testing.T, s string, want api.Value) {
	t.Helper()
	if got, e := Get(s); e != api.OK || !same(got, want) {
		t.Errorf("P10.2: Get(%.200q) = %s, %d, want %s", s, shown(got), e, shown(want))
	}
}

// refuseGet holds Get of s against ErrJsonForm with a zero value beside it (R2).
func refuseGet(t *testing.T, s string) {
	t.Helper()
	if got, e := Get(s); e != api.ErrJsonForm || !reflect.DeepEqual(got, api.Value{}) {
		t.Errorf("P10.2, R2: Get(%.200q) = %s, %d, want none", s, shown(got), e)
	}
}

var (
	wholeForm  = regexp.MustCompile(`^-?(0|[1-9][0-9]*)$`)
	escapeForm = regexp.MustCompile(`\\(["\\/bfnrt]|u[dD][89abAB][0-9a-fA-F]{2}\\u[dD][c-fC-F][0-9a-fA-F]{2}|u([0-9abcefABCEF][0-9a-fA-F]|[dD][0-7])[0-9a-fA-F]{2})`)
)

// second reads s by the library's reader, which takes more than P10.2 does, and takes away what P10.2 does not.
func second(s string) (api.Value, bool) {
	if len(s) > api.MaxText || !utf8.ValidString(s) || !ejson.Valid([]byte(s)) || strings.Contains(escapeForm.ReplaceAllString(s, ""), `\`) {
		return api.Value{}, false
	}
	d := ejson.NewDecoder(strings.NewReader(s))
	d.UseNumber()
	fine := true
	v := secondValue(d, &fine)
	if !fine || !value.May(v) {
		return api.Value{}, false
	}
	return v, true
}

func secondValue(d *ejson.Decoder, fine *bool) api.Value {
	token, _ := d.Token()
	switch x := token.(type) {
	case bool:
		if x {
			return boolean(1)
		}
		return boolean(0)
	case ejson.Number:
		n, _ := new(big.Int).SetString(string(x), 10)
		switch {
		case x == "-0":
			return bitsOf(1 << 63)
		case !wholeForm.MatchString(string(x)) || n.CmpAbs(big.NewInt(api.MaxInt)) > 0:
			*fine = false
			return null()
		}
		return whole(int(n.Int64()))
	case string:
		return text(x)
	case ejson.Delim:
		v := list()
		if x == '{' {
			v = record()
		}
		for d.More() {
			if x == '{' {
				key, _ := d.Token()
				v.Keys = append(v.Keys, key.(string))
			}
			v.Items = append(v.Items, secondValue(d, fine))
		}
		d.Token()
		return v
	}
	return null()
}

// hold holds Get against the second reading, and tells whether s is read.
func hold(t *testing.T, s string) bool {
	t.Helper()
	want, is := second(s)
	if is {
		checkGet(t, s, want)
	} else {
		refuseGet(t, s)
	}
	return is
}

func TestGetOfEachKind(t *testing.T) {
	for _, c := range []struct {
		s    string
		want api.Value
	}{
		{"null", null()}, {"true", boolean(1)}, {"false", boolean(0)},
		{`""`, text("")}, {`"a"`, text("a")}, {`"null"`, text("null")}, {`"[1]"`, text("[1]")}, {`"'<>&"`, text("'<>&")},
		{"[]", list()}, {"[null]", list(null())}, {"[1,2,3]", list(whole(1), whole(2), whole(3))}, {"[[],[[]],{}]", list(list(), list(list()), record())},
		{`[true,"x",-0,{"a":[]}]`, list(boolean(1), text("x"), bitsOf(1<<63), record("a", list()))},
		{"{}", record()}, {`{"a":null}`, record("a", null())}, {`{"a":1,"b":{"a":2},"c":[3]}`, record("a", whole(1), "b", record("a", whole(2)), "c", list(whole(3)))},
	} {
		checkGet(t, c.s, c.want)
		checkGet(t, " \t\r\n"+c.s+" \n\t\r", c.want)
		checkGet(t, "["+c.s+","+c.s+"]", list(c.want, c.want))
		checkGet(t, `{"k":`+c.s+`}`, record("k", c.want))
		for _, more := range []string{c.s, " " + c.s, ",", " ,", ":", "]", "}", `"`, "x", "\x00", "\\", "/**/", "//", "-", "."} {
			refuseGet(t, c.s+more)
			refuseGet(t, c.s+" "+more)
			refuseGet(t, more+c.s)
		}
	}
}

func TestGetOfWordsCutOrGoneOn(t *testing.T) {
	for _, word := range []string{"null", "true", "false"} {
		for i := range len(word) {
			refuseGet(t, word[:i])
			refuseGet(t, "[0,"+word[:i]+"]")
			refuseGet(t, "["+word[:i])
			refuseGet(t, word[i+1:])
			refuseGet(t, word[:i]+word[i+1:])
			refuseGet(t, word[:i]+strings.ToUpper(word[i:i+1])+word[i+1:])
			if i > 0 {
				refuseGet(t, word[:i]+" "+word[i:])
			}
			for b := range 256 {
				refuseGet(t, word[:i]+string([]byte{byte(b)})+word[i+1:]+"!")
				if byte(b) != word[i] {
					refuseGet(t, word[:i]+string([]byte{byte(b)})+word[i+1:])
				}
			}
		}
		refuseGet(t, strings.ToUpper(word))
		refuseGet(t, word+word[len(word)-1:])
		refuseGet(t, word+"1")
		refuseGet(t, word+"[]")
		refuseGet(t, `{`+word+`:1}`)
	}
	for _, s := range []string{"NaN", "Infinity", "-Infinity", "undefined", "nil", "None", "'a'", "a"} {
		refuseGet(t, s)
	}
}

func TestGetOfNoValue(t *testing.T) {
	for _, s := range []string{"", " ", "\t", "\n", "\r", " \t\n\r ", strings.Repeat(" ", api.MaxText), "\uFEFF", "\uFEFF1", "1\uFEFF", "\x00", "\x001", "1\x00", "\u00A01", "1\u2028"} {
		refuseGet(t, s)
	}
}

// TestGetOfBlanks puts each byte at each place of texts; between two signs only the four blanks may stand.
func TestGetOfBlanks(t *testing.T) {
	signs := []string{"{", `"a"`, ":", "[", "1", ",", "-20", ",", `"x\n\u00e9"`, ",", "null", ",", "true", ",", "false", ",", "{", "}", ",", "[", "]", "]", ",", `"b"`, ":", "{", `"c"`, ":", "-0", "}", "}"}
	want := record("a", list(whole(1), whole(-20), text("x\né"), null(), boolean(1), boolean(0), record(), list()), "b", record("c", bitsOf(1<<63)))
	checkGet(t, strings.Join(signs, ""), want)
	for _, blanks := range []string{" ", "\t", "\n", "\r", "\r\n", " \t\r\n  "} {
		checkGet(t, blanks+strings.Join(signs, blanks)+blanks, want)
	}
	for i := range len(signs) + 1 {
		ahead, behind := strings.Join(signs[:i], ""), strings.Join(signs[i:], "")
		for b := range 33 {
			s := ahead + string([]byte{byte(b)}) + behind
			if b == 9 || b == 10 || b == 13 || b == 32 {
				checkGet(t, s, want)
			} else {
				refuseGet(t, s)
			}
		}
	}
	all := strings.Join(signs, "")
	for i := range len(all) + 1 {
		for b := range 256 {
			hold(t, all[:i]+string([]byte{byte(b)})+all[i:])
			if i < len(all) {
				hold(t, all[:i]+string([]byte{byte(b)})+all[i+1:])
			}
		}
		if i < len(all) {
			refuseGet(t, all[:i])
			hold(t, all[:i]+all[i+1:])
		}
	}
}

func TestGetOfNumbers(t *testing.T) {
	for s, n := range map[string]int{"0": 0, "1": 1, "-1": -1, "9": 9, "10": 10, "100": 100, "-120": -120, "1234567890": 1234567890, "9007199254740991": api.MaxInt, "-9007199254740991": -api.MaxInt, "9007199254740990": api.MaxInt - 1, "8999999999999999": 8999999999999999} {
		checkGet(t, s, whole(n))
		checkGet(t, "["+s+", "+s+" ]", list(whole(n), whole(n)))
	}
	checkGet(t, "-0", bitsOf(1<<63))
	checkGet(t, "[-0,0]", list(bitsOf(1<<63), whole(0)))
	for _, s := range []string{
		"00", "01", "007", "-00", "-01", "-", "--1", "+1", "+0", "+", "- 1", "-a", "-\"", "-null", "1-", "1-1", "1 1", "1 0",
		"1.", "1.0", "0.0", "-0.0", "0.5", ".5", "-.5", ".", "1e1", "1E1", "1e+1", "1e-1", "0e0", "0E0", "-0e0", "1e", "1.0e1", "10e0", "1.e1",
		"9007199254740992", "-9007199254740992", "9007199254740993", "9007199254741000", "10000000000000000", "9223372036854775807", "9223372036854775808", "-9223372036854775808", "18446744073709551616", "18446744073709551617", "-18446744073709551617", "36893488147419103232",
		"0x1", "0b1", "1_0", "1a", "1,", "1.0.0", "\u0661", "１", "1n", "1f", "0" + strings.Repeat("0", 1000), "1" + strings.Repeat("0", api.MaxText-1), strings.Repeat("9", api.MaxText), "-" + strings.Repeat("1", 30),
	} {
		refuseGet(t, s)
		refuseGet(t, "["+s+"]")
		refuseGet(t, `{"a":`+s+`}`)
		refuseGet(t, "[0,"+s)
	}
}

func TestGetOfEachByteOfATextAndBehindAMark(t *testing.T) {
	escapes := map[byte]string{'"': "\"", '\\': "\\", '/': "/", 'b': "\b", 'f': "\f", 'n': "\n", 'r': "\r", 't': "\t"}
	for b := range 256 {
		one := string([]byte{byte(b)})
		if b >= 32 && b < 128 && b != '"' && b != '\\' {
			checkGet(t, `"`+one+`"`, text(one))
			checkGet(t, `"a`+one+`b"`, text("a"+one+"b"))
			checkGet(t, `{"`+one+`":1}`, record(one, whole(1)))
		} else {
			refuseGet(t, `"`+one+`"`)
			refuseGet(t, `"a`+one+`!"`)
			refuseGet(t, `{"`+one+`":1}`)
		}
		if sign, is := escapes[byte(b)]; is {
			checkGet(t, `"\`+one+`"`, text(sign))
			checkGet(t, `"a\`+one+`\`+one+`b"`, text("a"+sign+sign+"b"))
			checkGet(t, `{"\`+one+`":1}`, record(sign, whole(1)))
		} else {
			refuseGet(t, `"\`+one+`"`)
			refuseGet(t, `"\`+one+`1"`)
			refuseGet(t, `{"\`+one+`":1}`)
		}
	}
}

func TestGetOfSignsByNumber(t *testing.T) {
	for n := range 1 << 16 {
		for _, s := range []string{fmt.Sprintf(`"\u%04x"`, n), fmt.Sprintf(`"\u%04X"`, n)} {
			if n >= 0xD800 && n < 0xE000 {
				refuseGet(t, s)
			} else {
				checkGet(t, s, text(string(rune(n))))
			}
		}
	}
	checkGet(t, `"\u00e9\u00E9\uFfFd\u0000x"`, text("éé\uFFFD\x00x"))
	checkGet(t, `"\u00412"`, text("A2"))
	checkGet(t, `"\u005cu0041"`, text(`\u0041`))
	checkGet(t, `"\\u0041"`, text(`\u0041`))
	checkGet(t, `"\u0022"`, text(`"`))
	for at := range 4 {
		for b := range 256 {
			digits := []byte("00e9")
			digits[at] = byte(b)
			hold(t, `"\u`+string(digits)+`"`)
			if strings.IndexByte("0123456789abcdefABCDEF", byte(b)) < 0 {
				refuseGet(t, `"\u`+string(digits)+`"`)
				refuseGet(t, `"\u`+string(digits)+`ff"`)
			}
		}
		refuseGet(t, `"\u`+"00e9"[:at])
		refuseGet(t, `"\u`+"00e9"[:at]+`"`)
		refuseGet(t, `"\u`+"00e9"[:at]+`",0`)
	}
	for _, s := range []string{`"\U0041"`, `"\u{41}"`, `"\u+041"`, `"\u-041"`, `"\u 041"`, `"\u0x41"`, `"\x41"`, `"\101"`, `"\u00_1"`} {
		refuseGet(t, s)
	}
}

func TestGetOfSurrogates(t *testing.T) {
	edges := []int{0xD7FF, 0xD800, 0xD801, 0xD83D, 0xDBFE, 0xDBFF, 0xDC00, 0xDC01, 0xDE00, 0xDFFE, 0xDFFF, 0xE000, 0x0041}
	for _, a := range edges {
		for _, b := range edges {
			for _, form := range []string{`"\u%04x\u%04x"`, `"\u%04X\u%04X"`, `"x\u%04x\u%04Xy"`} {
				s := fmt.Sprintf(form, a, b)
				is := hold(t, s)
				pair := a >= 0xD800 && a < 0xDC00 && b >= 0xDC00 && b < 0xE000
				lone := a >= 0xD800 && a < 0xE000 || b >= 0xD800 && b < 0xE000
				if is != (pair || !lone) {
					t.Errorf("P10.2: %q: %v", s, is)
				}
			}
		}
	}
	checkGet(t, `"\ud83d\ude00"`, text("\U0001F600"))
	checkGet(t, `"\ud800\udc00\uDBFF\uDFFF"`, text("\U00010000\U0010FFFF"))
	checkGet(t, `{"\ud83d\ude00":1}`, record("\U0001F600", whole(1)))
	for _, s := range []string{
		`"\ud83d"`, `"\ude00"`, `"\ud83d`, `"\ud83d\`, `"\ud83d\u`, `"\ud83d\ude0`, `"\ud83d\ude0"`, `"\ud83d\"`, `"\ud83d\n"`, `"\ud83dx"`, `"\ud83d\\ude00"`, `"\ud83d\u0041"`, `"\ud83d \ude00"`, `"\ud83dude00"`, `"\ude00\ud83d"`,
		`"\ud83d\ud83d\ude00"`, `"\ud83d\ude00\ude00"`, `"\ud83d\ude00\ud83d"`, `"\ud83d\Ude00"`, "\"\\ud83d\xed\xb8\x80\"", "\"\xed\xa0\xbd\\ude00\"", `{"\ud83d":1}`, `["\ud83d"]`,
	} {
		refuseGet(t, s)
	}
}

func TestGetOfBytesThatAreNoText(t *testing.T) {
	for _, s := range []string{"\xff", "\x80", "\xc0\x80", "\xc1\xbf", "\xe2\x80", "\xe0\x80\x80", "\xed\xa0\x80", "\xed\xbf\xbf", "\xf0\x80\x80\x80", "\xf0\x9f\x98", "\xf4\x90\x80\x80", "\xf8\x88\x80\x80\x80", "\xe2\x80\\u0041", "\xc3\\u00a9"} {
		refuseGet(t, `"`+s+`"`)
		refuseGet(t, `"a`+s+`b"`)
		refuseGet(t, `{"`+s+`":1}`)
		refuseGet(t, `["`+s+`"]`)
		refuseGet(t, "1"+s)
		refuseGet(t, s)
	}
	for _, s := range []string{"é", "\u0080", "\u07ff", "\u0800", "\u2028", "\u2029", "\uD7FF", "\uE000", "\uFEFF", "\uFFFD", "\uFFFE", "\uFFFF", "\U00010000", "\U0001F600", "\U0010FFFF", "\x7f", "e\u0301"} {
		checkGet(t, `"`+s+`"`, text(s))
		checkGet(t, `{"`+s+`":"`+s+s+`"}`, record(s, text(s+s)))
		refuseGet(t, s)
		refuseGet(t, "["+s+"]")
	}
}

func TestGetOfTextsWithoutEnd(t *testing.T) {
	for _, s := range []string{`"`, `"a`, `"\`, `"\"`, `"a\\\"`, `"\n`, `["`, `["a`, `["a]`, `{"`, `{"a`, `{"a:1}`, `{"a":"`, `"a"b"`, `""a`, `"""`, `a"`, `'a'`, `"a'`, "`a`"} {
		refuseGet(t, s)
	}
	checkGet(t, `"\\"`, text(`\`))
	checkGet(t, `"a\\\""`, text(`a\"`))
}

func TestGetOfListsAndObjects(t *testing.T) {
	for _, s := range []string{
		"[", "]", "[[", "[]]", "[[]", "[1", "[1,", "[,", "[,]", "[,1]", "[1,]", "[1,,2]", "[1 2]", "[1;2]", "[1:2]", "[:]", "[1}", "[}", "(1)", "[1]]", "[1],", "[][]", `["a" "b"]`, "[[]1]", "[1[]]", `["a":1]`, "[null null]", "[[],]", "[1,2,]", "[ , ]", "[1,\x0b2]",
		"{", "}", "{{", "{}}", "{{}}", "{]", "{,}", "{:}", `{"a"}`, `{"a":}`, `{"a":1`, `{"a":1,`, `{"a":1,}`, `{,"a":1}`, `{"a":1,,"b":2}`, `{"a" 1}`, `{"a",1}`, `{"a"::1}`, `{"a":1:2}`, `{"a":1 "b":2}`, `{"a":1;"b":2}`, `{"a":1,"b"}`, `{"a":1,"b":}`, `{:1}`, `{1:1}`, `{a:1}`, `{'a':1}`, `{null:1}`, `{[]:1}`, `{{}:1}`, `{"a":1]`, `{"a":1}}`, `{"a":1},`, `{}{}`, `{"a"=1}`, `{"a":1,2}`, `{"a":b}`,
	} {
		refuseGet(t, s)
		// A bracket too many is one that lacks elsewhere.
		hold(t, "["+s)
		hold(t, `{"a":`+s)
		hold(t, "[0,"+s+",0]")
	}
	checkGet(t, "[ ]", list())
	checkGet(t, "{ }", record())
	checkGet(t, "[\n[ ] , { }\t]", list(list(), record()))
}

func TestGetOfKeys(t *testing.T) {
	for _, c := range []struct {
		a, b string
		want api.Value
	}{
		{"a", "b", record("a", null(), "b", null())}, {"A", "a", record("A", null(), "a", null())}, {"a", "aa", record("a", null(), "aa", null())}, {"10", "9", record("10", null(), "9", null())},
		{"z", "é", record("z", null(), "é", null())}, {"é", `\u00ea`, record("é", null(), "ê", null())},
		// Keys rise by the bytes that they tell, not by those that tell them, nor by surrogates.
		{"a", `\u0062`, record("a", null(), "b", null())}, {`\u0000`, `\u0000\u0000`, record("\x00", null(), "\x00\x00", null())}, {`\n`, " ", record("\n", null(), " ", null())},
		{`\uffff`, `\ud800\udc00`, record("\uFFFF", null(), "\U00010000", null())}, {"\uFFFF", `\ud800\udc00`, record("\uFFFF", null(), "\U00010000", null())},
	} {
		checkGet(t, `{"`+c.a+`":null,"`+c.b+`":null}`, c.want)
		refuseGet(t, `{"`+c.b+`":null,"`+c.a+`":null}`)
		refuseGet(t, `{"`+c.a+`":null,"`+c.a+`":null}`)
		refuseGet(t, `{"`+c.b+`":null,"`+c.b+`":null}`)
		refuseGet(t, `{"`+c.a+`":1,"`+c.b+`":2,"`+c.b+`":3}`)
		refuseGet(t, `[{"`+c.b+`":1,"`+c.a+`":2}]`)
	}
	refuseGet(t, `{"a":1,"\u0061":2}`)
	refuseGet(t, `{"":1}`)
	refuseGet(t, `{"":1,"a":2}`)
	refuseGet(t, `{"a":1,"c":2,"b":3}`)
	for _, key := range []struct{ told, is string }{{"k", "k"}, {`\u006b`, "k"}, {`\n`, "\n"}, {`\u0000`, "\x00"}} {
		checkGet(t, `{"`+strings.Repeat(key.told, api.MaxKey)+`":1}`, record(strings.Repeat(key.is, api.MaxKey), whole(1)))
		refuseGet(t, `{"`+strings.Repeat(key.told, api.MaxKey+1)+`":1}`)
	}
	checkGet(t, `{"`+strings.Repeat("é", 16)+`":1}`, record(strings.Repeat("é", 16), whole(1)))
	refuseGet(t, `{"`+strings.Repeat("é", 16)+`k":1}`)
	refuseGet(t, `{"`+strings.Repeat("k", api.MaxText-6)+`":1}`)
}

func TestGetAtTheBounds(t *testing.T) {
	x := strings.Repeat
	for n := 1; n <= api.MaxDeep+2; n++ {
		for _, c := range []struct{ ahead, end, behind, kinds string }{{"[", "null", "]", "L"}, {"[", `"x"`, "]", "L"}, {`{"a":`, "1", "}", "R"}, {"[", "[]", "]", "L"}, {`{"a":`, "{}", "}", "R"}, {"[ ", "{}", " ]", "L"}} {
			s := x(c.ahead, n-1) + c.end + x(c.behind, n-1)
			if n > api.MaxDeep {
				refuseGet(t, s)
				continue
			}
			end, _ := Get(c.end)
			checkGet(t, s, deep(n, c.kinds, end))
		}
	}
	checkGet(t, `[{"a":[{"a":[{"a":[0]}]}]}]`, deep(8, "LR", whole(0)))
	checkGet(t, `{"a":[{"a":[{"a":[{"a":[]}]}]}]}`, deep(8, "RL", list()))
	refuseGet(t, `[{"a":[{"a":[{"a":[[0]]}]}]}]`)
	refuseGet(t, `{"a":[{"a":[{"a":[{"a":[0]}]}]}]}`)
	refuseGet(t, `[0,[[[[[[[[]]]]]]]],0]`)
	checkGet(t, "["+x("1,", api.MaxItems-1)+"1]", func() api.Value {
		v := list(nulls(api.MaxItems)...)
		for i := range v.Items {
			v.Items[i] = whole(1)
		}
		return v
	}())
	refuseGet(t, "["+x("1,", api.MaxItems)+"1]")
	refuseGet(t, "[["+x("1,", api.MaxItems)+"1]]")
	refuseGet(t, "["+x("1,", 1<<15-2)+"1]")
	object := func(n int) string {
		s := ""
		for _, key := range rows(n) {
			s += `,"` + key + `":null`
		}
		return "{" + s[1:] + "}"
	}
	checkGet(t, object(api.MaxItems), api.Value{Kind: api.ValueRecord, Keys: rows(api.MaxItems), Items: nulls(api.MaxItems)})
	refuseGet(t, object(api.MaxItems+1))
	refuseGet(t, object(4000))
	many, _ := Put(sized(api.MaxValues))
	checkGet(t, many, sized(api.MaxValues))
	refuseGet(t, strings.Replace(many, "null]]", "null,null]]", 1))
	refuseGet(t, strings.Replace(many, "null]]", "null,[]]]", 1))
}

func TestGetOfLongTexts(t *testing.T) {
	x := strings.Repeat
	for i, c := range []struct {
		ahead, behind string
		make1         func(s string) api.Value
	}{
		{`"`, `"`, text},
		{`["`, `"]`, func(s string) api.Value { return list(text(s)) }},
		{`{"k":"`, `","l":null}`, func(s string) api.Value { return record("k", text(s), "l", null()) }},
	} {
		room := api.MaxText - len(c.ahead) - len(c.behind)
		checkGet(t, c.ahead+x("x", room)+c.behind, c.make1(x("x", room)))
		refuseGet(t, c.ahead+x("x", room+1)+c.behind)
		refuseGet(t, c.ahead+x("x", room+1<<20)+c.behind)
		if i == 0 {
			checkGet(t, c.ahead+x("é", room/2)+c.behind, text(x("é", room/2)))
			checkGet(t, c.ahead+x(`\u003c`, room/6)+c.behind, text(x("<", room/6)))
		}
	}
	for _, s := range []string{"1", "null", "[]", `{"a":1}`, "-0"} {
		want, _ := Get(s)
		blanks := x(" ", api.MaxText-len(s))
		checkGet(t, blanks+s, want)
		checkGet(t, s+blanks, want)
		checkGet(t, blanks[:100]+s+blanks[100:], want)
		refuseGet(t, blanks+" "+s)
		refuseGet(t, s+blanks+" ")
	}
	checkGet(t, "["+x(" ", api.MaxText-2)+"]", list())
	refuseGet(t, "["+x(" ", api.MaxText-1)+"]")
}

// TestGetEnds: texts that ask for much end soon.
func TestGetEnds(t *testing.T) {
	begin := time.Now()
	for _, s := range []string{"[", "{", `{"a":`, "]", `"`, `\`, `"\`, "1", "9,", "-", " ", "[[],", "[]", `"",`, `\u0041`, "\xff", "é", "null,", `{"a":[`} {
		for _, ahead := range []string{"", "[", `"`, `{"`, `{"a":`, "[["} {
			long := strings.Repeat(s, api.MaxText/len(s)+1)
			for _, cut := range []int{api.MaxText, api.MaxText - 1} {
				all := (ahead + long)[:cut]
				if want, is := second(all); is {
					checkGet(t, all, want)
				} else {
					refuseGet(t, all)
				}
			}
			refuseGet(t, ahead+long)
		}
	}
	if spent := time.Since(begin); spent > 20*time.Second {
		t.Errorf("R1: %v", spent)
	}
}

// TestGetOfAllRows holds Get against the second reading of all short rows of signs.
func TestGetOfAllRows(t *testing.T) {
	for _, c := range []struct {
		most  int
		signs []string
	}{
		{4, []string{"[", "]", "{", "}", ",", ":", `"`, `\`, "a", "n", "u", "0", "1", "-", ".", "e", "+", " ", "\n", "\x00", "\xff"}},
		{6, []string{"[", "]", "{", "}", ",", ":", `"a"`, `"b"`, "1"}},
		{6, []string{"-", "0", "1", "9", ".", "e", "+"}},
		{5, []string{`\ud83d`, `\ude00`, `\`, `\u`, `u`, "0041", `"`, "x"}},
	} {
		read, refused := 0, 0
		rows := []string{""}
		for n := range c.most + 1 {
			var next []string
			for _, s := range rows {
				if strings.Contains(c.signs[0], "ud83d") {
					s = `"` + s + `"`
				}
				if hold(t, s) {
					read++
				} else {
					refused++
				}
				if t.Failed() {
					return
				}
			}
			for _, s := range rows {
				for _, sign := range c.signs {
					if n < c.most {
						next = append(next, s+sign)
					}
				}
			}
			rows = next
		}
		if read < 50 || refused < 50 {
			t.Errorf("%d read, %d refused", read, refused)
		}
	}
}

// TestGetOfChance holds Get against the second reading of texts that were put, with bytes changed, taken out and put in.
func TestGetOfChance(t *testing.T) {
	r := rand.New(rand.NewSource(100))
	parts := []string{"[", "]", "{", "}", ",", ":", `"`, `\`, `\u`, "0", "1", "-", ".", "e", " ", "\n", "\t", "\x00", "\x1f", "\x7f", "\xff", "é", `\ud83d`, `\ude00`, `"a"`, `"b":`, "null", "true", "false", `\n`, `\/`, `,"z":1`}
	read, refused := 0, 0
	for range 60000 {
		s, e := Put(chance(r, 1+r.Intn(5), r.Intn(2) == 0))
		if e != api.OK {
			t.Fatal(e)
		}
		for range r.Intn(3) {
			i := r.Intn(len(s) + 1)
			j := min(len(s), i+r.Intn(2))
			s = s[:i] + parts[r.Intn(len(parts))] + s[j:]
		}
		if hold(t, s) {
			read++
		} else {
			refused++
		}
		if t.Failed() {
			return
		}
	}
	if read < 10000 || refused < 10000 {
		t.Errorf("%d read, %d refused", read, refused)
	}
}

// TestReadOfFaults: what the reader throws is caught, and nothing of what was read ahead of it is told.
func TestReadOfFaults(t *testing.T) {
	for _, s := range []string{"", "[", `"\ud800"`, "1 1", "[1,{]"} {
		if v, e := read(s); e != api.ErrJsonForm || !reflect.DeepEqual(v, api.Value{}) {
			t.Errorf("read(%q) = %v, %d", s, v, e)
		}
	}
}

func FuzzGet(f *testing.F) {
	for _, s := range []string{"", `{"a":[1,-0,"x\u00e9"]}`, "[null,true,false]", `"\ud83d\ude00"`} {
		f.Add(s)
	}
	f.Fuzz(func(t *testing.T, s string) {
		hold(t, s)
	})
}

func BenchmarkGet(b *testing.B) {
	s := "[" + strings.Repeat(`"a\u003cé",`, 63) + "1]"
	for b.Loop() {
		Get(s)
	}
}
