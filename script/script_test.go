package script

import (
	"fmt"
	"math/rand"
	"strings"
	"testing"

	"stole/utf"
)

const bad = "\uFFFD"

// wanted gives what one sign, or one byte that is none, comes to.
func wanted(sign string) string {
	const marks = " !#$%()*+,-./:;=?@[]^_{|}~"
	c := sign[0]
	switch {
	case sign == "\u2028":
		return `\u2028`
	case sign == "\u2029":
		return `\u2029`
	case !utf.May(sign):
		return bad
	case c > 127 || c >= 'A' && c <= 'Z' || c >= 'a' && c <= 'z' || c >= '0' && c <= '9' || strings.Contains(marks, sign):
		return sign
	}
	return fmt.Sprintf(`\u%04x`, c)
}

func check(t *testing.T, s, want string) {
	t.Helper()
	if got := Escape(s); got != want {
		t.Fatalf("Escape(%q) = %q, want %q", s, got, want)
	}
}

func TestEachByte(t *testing.T) {
	check(t, "", "")
	for b := range 256 {
		one := string([]byte{byte(b)})
		check(t, one, wanted(one))
		check(t, "a"+one+"Z", "a"+wanted(one)+"Z")
		check(t, one+one, wanted(one)+wanted(one))
	}
	check(t, `</script>"&'\`+"`\n\x7f", `\u003c/script\u003e\u0022\u0026\u0027\u005c\u0060\u000a\u007f`)
}

func TestEachSign(t *testing.T) {
	for sign := rune(128); sign <= 0x10FFFF; sign++ {
		if sign >= 0xD800 && sign < 0xE000 {
			continue
		}
		check(t, string(sign), wanted(string(sign)))
	}
}

func TestBytesThatAreNoText(t *testing.T) {
	for _, s := range []string{"\x00", "\xff", "\xe2\x80", "\xed\xa0\x80", "\xc0\x80", "\xf4\x90\x80\x80", "\xe2\x80\x00"} {
		check(t, s, strings.Repeat(bad, len(s)))
		check(t, "<"+s+">", `\u003c`+strings.Repeat(bad, len(s))+`\u003e`)
	}
	check(t, bad, bad)
	check(t, "\xe2\x80\u2028", bad+bad+`\u2028`)
}

func TestRowsOfChance(t *testing.T) {
	r := rand.New(rand.NewSource(11))
	signs := []string{"a", "Z", "0", "<", "\"", "\\", "\x00", "\x7f", "\xff", "é", "\u2028", "\u2029", "\u2027", "\U0001F600", " "}
	for range 20000 {
		s, want := "", ""
		for range r.Intn(12) {
			sign := signs[r.Intn(len(signs))]
			s += sign
			want += wanted(sign)
		}
		check(t, s, want)
	}
}
