package jstr

import (
	ejson "encoding/json"
	"fmt"
	"math/rand"
	"slices"
	"strings"
	"sync"
	"testing"
	"time"
	"unicode/utf8"
	"unsafe"

	"stole/api"
	"stole/json"
	"stole/utf"
)

// bad is the sign for what is none.
const bad = "\uFFFD"

// The bytes below 128 that stay, and those that are told by their number, but for the byte 0; each of the two rows is written out, so that neither is what the other leaves.
const (
	stay = "ABCDEFGHIJKLMNOPQRSTUVWXYZabcdefghijklmnopqrstuvwxyz0123456789 !#$%()*+,-./:;=?@[]^_{|}~"
	told = "\x01\x02\x03\x04\x05\x06\x07\x08\x09\x0a\x0b\x0c\x0d\x0e\x0f\x10\x11\x12\x13\x14\x15\x16\x17\x18\x19\x1a\x1b\x1c\x1d\x1e\x1f\"&'<>\\`\x7f"
)

// one gives the text of one byte.
func one(b int) string { return string([]byte{byte(b)}) }

// wanted gives what one sign, or one byte that is none, comes to.
func wanted(sign string) string {
	switch {
	case sign == "\u2028" || sign == "\u2029" || len(sign) == 1 && strings.Contains(told, sign):
		r, _ := utf8.DecodeRuneInString(sign)
		return fmt.Sprintf(`\u%04x`, r)
	case len(sign) == 1 && !strings.Contains(stay, sign):
		return bad
	}
	return sign
}

func check(t *testing.T, s, want string) {
	t.Helper()
	if got := Escape(s); got != want {
		t.Fatalf("P11.1: Escape(%.200q) = %.200q, want %.200q", s, got, want)
	}
}

// checkSafe holds what Escape gives of s against T5.
func checkSafe(t *testing.T, s string) {
	t.Helper()
	got := Escape(s)
	if !utf.May(got) || strings.ContainsAny(got, "\"'`<>&\u2028\u2029") {
		t.Fatalf("T5: Escape(%.200q) = %.200q", s, got)
	}
	for i := range len(got) {
		if got[i] < ' ' || got[i] == 127 || got[i] == '\\' && !isNumber(got[i:]) {
			t.Fatalf("T5: Escape(%.200q) = %.200q: byte %d", s, got, i)
		}
	}
	var back string
	if e := ejson.Unmarshal([]byte(`"`+got+`"`), &back); e != nil || back != utf.Norm(s) {
		t.Fatalf("T5: %.200q: %.200q: %.200q, %v", s, got, back, e)
	}
	v, e := json.Get(`"` + got + `"`)
	if len(got)+2 > api.MaxText {
		if e != api.ErrJsonForm {
			t.Fatalf("P10.2: %.200q: %d", got, e)
		}
		return
	}
	if e != api.OK || v.Kind != api.ValueText || v.Text != utf.Norm(s) {
		t.Fatalf("T5: %.200q: %.200q: %.200q, %d", s, got, v.Text, e)
	}
}

// isNumber tells whether s begins with a backslash, a u and four digits of sixteen, a to f.
func isNumber(s string) bool {
	return len(s) >= 6 && s[1] == 'u' && strings.Trim(s[2:6], "0123456789abcdef") == ""
}

func TestTheRowsHaveEachByteOnce(t *testing.T) {
	all := "\x00" + stay + told
	if len(all) != 128 {
		t.Fatalf("%d bytes", len(all))
	}
	for b := range 128 {
		if strings.Count(all, one(b)) != 1 {
			t.Errorf("byte %d: %d times", b, strings.Count(all, one(b)))
		}
	}
}

func TestTexts(t *testing.T) {
	for _, c := range []struct{ s, want string }{
		{"", ""},
		{"a", "a"},
		{"Hello, World 0-9!", "Hello, World 0-9!"},
		{stay, stay},
		{`"`, `\u0022`},
		{`\`, `\u005c`},
		{`\u0041`, `\u005cu0041`},
		{`\\"`, `\u005c\u005c\u0022`},
		{"\u2028", `\u2028`},
		{`\u2028`, `\u005cu2028`},
		{"</script>", `\u003c/script\u003e`},
		{"<!--", `\u003c!--`},
		{"-->", `--\u003e`},
		{"]]>", `]]\u003e`},
		{"*/", "*/"},
		{"//", "//"},
		{"'+alert(1)+'", `\u0027+alert(1)+\u0027`},
		{"`${x}`", `\u0060${x}\u0060`},
		{"&quot;&#34;", `\u0026quot;\u0026#34;`},
		{"a\r\nb\tc", `a\u000d\u000ab\u0009c`},
		{"\x00", bad},
		{"a\x00b", "a" + bad + "b"},
		{"\x01\x0f\x10\x1f\x7f", `\u0001\u000f\u0010\u001f\u007f`},
		{"é\u20ac\U0001F600", "é\u20ac\U0001F600"},
		{bad, bad},
		{"\u0080\u0085\u00a0\ufeff\uffff", "\u0080\u0085\u00a0\ufeff\uffff"},
	} {
		check(t, c.s, c.want)
		checkSafe(t, c.s)
	}
}

// TestEachByte: each byte alone, between other signs, twice, ahead of each other byte below 128, and between the bytes of a sign.
func TestEachByte(t *testing.T) {
	for b := range 256 {
		s, want := one(b), wanted(one(b))
		check(t, s, want)
		check(t, "a"+s+"Z", "a"+want+"Z")
		check(t, s+s, want+want)
		check(t, "<"+s+">", `\u003c`+want+`\u003e`)
		check(t, "é"+s+"\u2028", "é"+want+`\u2028`)
		check(t, "\U0001F600"+s+"\U0001F600", "\U0001F600"+want+"\U0001F600")
		checkSafe(t, s)
		checkSafe(t, "a"+s+"\\"+s)
		for c := range 128 {
			check(t, s+one(c), want+wanted(one(c)))
		}
		if b < 128 {
			check(t, "\xe2\x80"+s+"\xa8", bad+bad+want+bad)
		}
	}
}

// TestBytesThatAreNoText: each byte of what is no sign, or is cut short, is U+FFFD of its own.
func TestBytesThatAreNoText(t *testing.T) {
	for _, s := range []string{
		"\x00", "\x80", "\xbf", "\xff", "\xfe", "\xc0\x80", "\xc1\xbf", "\xc2", "\xdf", "\xe2", "\xe2\x80", "\xe0\x80\x80", "\xe0\x9f\xbf", "\xed\xa0\x80", "\xed\xbf\xbf",
		"\xf0", "\xf0\x9f", "\xf0\x9f\x98", "\xf0\x80\x80\x80", "\xf0\x8f\xbf\xbf", "\xf4\x90\x80\x80", "\xf5\x80\x80\x80", "\xf8\x88\x80\x80\x80", "\xf0\x82\x80\xa8", "\xe2\x80\x00",
	} {
		want := strings.Repeat(bad, len(s))
		check(t, s, want)
		check(t, s+s, want+want)
		check(t, "a"+s, "a"+want)
		check(t, s+"\"", want+`\u0022`)
		check(t, "<"+s+">", `\u003c`+want+`\u003e`)
		check(t, "\u2028"+s+"\u2029", `\u2028`+want+`\u2029`)
		check(t, "\U0001F600"+s+"é", "\U0001F600"+want+"é")
		checkSafe(t, s+"\\"+s)
	}
	check(t, "\xe2\x80\xa8"[:2]+"\u2028", bad+bad+`\u2028`)
	check(t, "\xa8\xe2\x80\xa8\x80", bad+`\u2028`+bad)
}

// TestEachSign: of all signs of two, three and four bytes only two are told by their number.
func TestEachSign(t *testing.T) {
	var numbers []rune
	for r := rune(128); r <= utf8.MaxRune; r++ {
		if !utf8.ValidRune(r) {
			continue
		}
		s := string(r)
		check(t, s, wanted(s))
		if Escape(s) != s {
			numbers = append(numbers, r)
		}
	}
	if !slices.Equal(numbers, []rune{0x2028, 0x2029}) {
		t.Errorf("P11.1: told by their number: %x", numbers)
	}
	for _, r := range []rune{0x80, 0x7FF, 0x800, 0x2027, 0x2028, 0x2029, 0x202A, 0x2128, 0x12028, 0x22029, 0xD7FF, 0xE000, 0xFFFD, 0xFFFF, 0x10000, 0x10FFFF} {
		s := string(r)
		check(t, "'"+s+"'"+s, `\u0027`+wanted(s)+`\u0027`+wanted(s))
		checkSafe(t, s)
	}
	check(t, "\u2027\u2028\u2029\u202a", "\u2027\\u2028\\u2029\u202a")
	check(t, "\u2029\u2029\u2028\u2028", `\u2029\u2029\u2028\u2028`)
}

// TestRows: many signs in a row, each kind of them, and all of one kind.
func TestRows(t *testing.T) {
	x := strings.Repeat
	check(t, told, func() string {
		want := ""
		for i := range len(told) {
			want += wanted(told[i : i+1])
		}
		return want
	}())
	for _, sign := range []string{"a", " ", "~", "\"", "\\", "<", "\n", "\x7f", "\x00", "\xff", "é", "\u2027", "\u2028", "\u2029", "\U0001F600"} {
		for _, n := range []int{2, 3, 7, 8, 64, 1000, api.MaxText} {
			check(t, x(sign, n), x(wanted(sign), n))
			check(t, "x"+x(sign, n)+"<", "x"+x(wanted(sign), n)+`\u003c`)
		}
		checkSafe(t, x(sign, 1000))
		checkSafe(t, x(sign, api.MaxText))
	}
}

// TestTheGreatestThatGetReads: texts that fill what Get takes to its last byte, and one sign more.
func TestTheGreatestThatGetReads(t *testing.T) {
	for _, sign := range []string{"a", "<", "\xff", "\u2028", "é"} {
		n := (api.MaxText - 2) / len(wanted(sign))
		s := strings.Repeat(sign, n) + strings.Repeat("a", (api.MaxText-2)%len(wanted(sign)))
		if got := Escape(s); len(got) != api.MaxText-2 {
			t.Fatalf("%q: %d bytes", sign, len(got))
		}
		checkSafe(t, s)
		checkSafe(t, s+sign)
	}
}

// TestSharedWithPut: layer 10 tells a text as Escape does.
func TestSharedWithPut(t *testing.T) {
	for _, s := range []string{"", "a", stay, told, "\x00\xff", "\u2028é\u2029", "</script>"} {
		if got, e := json.Put(api.Value{Kind: api.ValueText, Text: s}); e != api.OK || got != `"`+Escape(s)+`"` {
			t.Errorf("P10.1: %q: %q, %d", s, got, e)
		}
	}
}

// chance gives a random text of signs and of bytes that are none, with what it comes to.
func chance(r *rand.Rand, most int) (string, string) {
	signs := []string{"a", "Z", "0", "u", " ", "<", ">", "&", "'", "\"", "\\", "/", "`", "\n", "\x00", "\x1f", "\x7f", "\xff", "\xfe", "é", "\u2027", "\u2028", "\u2029", "\u202a", bad, "\uFFFF", "\U00010000", "\U0010FFFF"}
	var s, want strings.Builder
	for range r.Intn(most + 1) {
		sign := signs[r.Intn(len(signs))]
		switch r.Intn(4) {
		case 0:
			sign = one(r.Intn(128))
		case 1:
			if n := rune(r.Intn(utf8.MaxRune + 1)); n > 127 && utf8.ValidRune(n) {
				sign = string(n)
			}
		}
		s.WriteString(sign)
		want.WriteString(wanted(sign))
	}
	return s.String(), want.String()
}

func TestTextsOfChance(t *testing.T) {
	r := rand.New(rand.NewSource(11))
	for range 30000 {
		s, want := chance(r, 20)
		check(t, s, want)
		checkSafe(t, s)
	}
	for range 20 {
		s, want := chance(r, 20000)
		check(t, s, want)
		checkSafe(t, s)
	}
}

func TestBytesOfChance(t *testing.T) {
	r := rand.New(rand.NewSource(12))
	const near = "\xe2\x80\xa7\xa8\xa9\xaa\xed\xf0\x9f\x98\xc3\xff\x00\"\\<ua"
	for range 30000 {
		s := make([]byte, r.Intn(16))
		for i := range s {
			s[i] = byte(r.Intn(256))
			if r.Intn(2) == 0 {
				s[i] = near[r.Intn(len(near))]
			}
		}
		check(t, string(s), Escape(utf.Norm(string(s))))
		checkSafe(t, string(s))
	}
}

// TestWhatIsAnsweredStandsAlone: R4, with texts that stay as they are, too.
func TestWhatIsAnsweredStandsAlone(t *testing.T) {
	for _, s := range []string{"a", "abc", strings.Repeat("x", 1000), "<é>"} {
		a, b := Escape(s), Escape(s)
		if a != b || unsafe.StringData(a) == unsafe.StringData(s) || unsafe.StringData(a) == unsafe.StringData(b) {
			t.Errorf("R4: %.40q", s)
		}
	}
}

// TestCallsAtOneTime: R5, whatever was asked ahead.
func TestCallsAtOneTime(t *testing.T) {
	r := rand.New(rand.NewSource(13))
	var texts, wants []string
	for range 200 {
		s, want := chance(r, 50)
		texts, wants = append(texts, s), append(wants, want)
	}
	var all sync.WaitGroup
	for worker := range 8 {
		all.Go(func() {
			for i := range 2000 {
				n := (i*7 + worker*31) % len(texts)
				if got := Escape(texts[n]); got != wants[n] {
					t.Errorf("R5: %q: %q, want %q", texts[n], got, wants[n])
				}
			}
		})
	}
	all.Wait()
}

// TestEnds: R1, of texts far longer than a source may be.
func TestEnds(t *testing.T) {
	begin := time.Now()
	for _, sign := range []string{"a", "<", "\xff", "\xe2\x80", "\u2028", "\U0001F600"} {
		n := 1 << 22
		want := len(wanted(sign))
		if !utf.May(sign) {
			want = len(sign) * len(bad)
		}
		if got := Escape(strings.Repeat(sign, n)); len(got) != n*want {
			t.Errorf("R1: %q: %d bytes", sign, len(got))
		}
	}
	if spent := time.Since(begin); spent > 20*time.Second {
		t.Errorf("R1: %v", spent)
	}
}

func FuzzEscape(f *testing.F) {
	for _, s := range []string{"", stay, told, "\x00\xff\xe2\x80", "\u2028\u2029", "</script>"} {
		f.Add(s)
	}
	f.Fuzz(func(t *testing.T, s string) {
		check(t, s, Escape(utf.Norm(s)))
		checkSafe(t, s)
	})
}

func BenchmarkEscape(b *testing.B) {
	s := strings.Repeat("ab<é\u2028", 1000)
	for b.Loop() {
		Escape(s)
	}
}
