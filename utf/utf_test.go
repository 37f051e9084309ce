package utf

import (
	"strings"
	"sync"
	"testing"

	"stole/api"
)

// bad is what stands for a byte that is of no sign.
const bad = "\xef\xbf\xbd"

// edges are texts, and what P1.1 makes of them; a text may be if and only if Norm leaves it.
var edges = []struct{ name, in, norm, lower string }{
	{"empty", "", "", ""},
	{"letters", "Hello, World 09", "Hello, World 09", "hello, world 09"},
	{"beside letters", "@AZ[`az{", "@AZ[`az{", "@az[`az{"},
	{"markup", "<P CLASS=\"a\">&amp;\r\n\t", "<P CLASS=\"a\">&amp;\r\n\t", "<p class=\"a\">&amp;\r\n\t"},
	{"byte 1", "\x01", "\x01", "\x01"},
	{"byte 127", "\x7f", "\x7f", "\x7f"},
	{"byte 0", "\x00", bad, "\x00"},
	{"byte 0 first", "\x00AB", bad + "AB", "\x00ab"},
	{"byte 0 within", "A\x00B", "A" + bad + "B", "a\x00b"},
	{"byte 0 last", "AB\x00", "AB" + bad, "ab\x00"},
	{"bytes 0", "\x00\x00", bad + bad, "\x00\x00"},
	{"two bytes", "\u0080\u00c9\u07ff", "\u0080\u00c9\u07ff", "\u0080\u00c9\u07ff"},
	{"three bytes", "\u0800\u2028\ud7ff\ue000\uffff", "\u0800\u2028\ud7ff\ue000\uffff", "\u0800\u2028\ud7ff\ue000\uffff"},
	{"four bytes", "\U00010000\U0001F600\U0010FFFF", "\U00010000\U0001F600\U0010FFFF", "\U00010000\U0001F600\U0010FFFF"},
	{"U+FFFD itself", "A" + bad + "B", "A" + bad + "B", "a" + bad + "b"},
	{"U+FEFF", "\ufeffA", "\ufeffA", "\ufeffa"},
	{"capitals that are no letters here", "ÀÉΩЖ\u212a", "ÀÉΩЖ\u212a", "ÀÉΩЖ\u212a"},
	{"lone further byte", "\x80", bad, "\x80"},
	{"further bytes", "a\x80\xbfb", "a" + bad + bad + "b", "a\x80\xbfb"},
	{"further byte behind a sign", "é\x80", "é" + bad, "é\x80"},
	{"no UTF-8 at all", "\xf5\xf8\xfc\xfe\xff", bad + bad + bad + bad + bad, "\xf5\xf8\xfc\xfe\xff"},
	{"0 in two bytes", "\xc0\x80", bad + bad, "\xc0\x80"},
	{"A in two bytes", "\xc1\x81", bad + bad, "\xc1\x81"},
	{"long three bytes", "\xe0\x9f\xbf", bad + bad + bad, "\xe0\x9f\xbf"},
	{"long four bytes", "\xf0\x8f\xbf\xbf", bad + bad + bad + bad, "\xf0\x8f\xbf\xbf"},
	{"first surrogate", "\xed\xa0\x80", bad + bad + bad, "\xed\xa0\x80"},
	{"last surrogate", "\xed\xbf\xbf", bad + bad + bad, "\xed\xbf\xbf"},
	{"pair of surrogates", "\xed\xa0\xbd\xed\xb8\x80", strings.Repeat(bad, 6), "\xed\xa0\xbd\xed\xb8\x80"},
	{"above U+10FFFF", "\xf4\x90\x80\x80", bad + bad + bad + bad, "\xf4\x90\x80\x80"},
	{"five bytes", "\xf8\x88\x80\x80\x80", strings.Repeat(bad, 5), "\xf8\x88\x80\x80\x80"},
	{"end within two bytes", "A\xc3", "A" + bad, "a\xc3"},
	{"end within three bytes, one there", "A\xe2", "A" + bad, "a\xe2"},
	{"end within three bytes, two there", "A\xe2\x82", "A" + bad + bad, "a\xe2\x82"},
	{"end within four bytes, one there", "\xf0", bad, "\xf0"},
	{"end within four bytes, two there", "\xf0\x9f", bad + bad, "\xf0\x9f"},
	{"end within four bytes, three there", "\xf0\x9f\x98", bad + bad + bad, "\xf0\x9f\x98"},
	{"sign cut by a letter", "\xe2\x82Z\xac", bad + bad + "Z" + bad, "\xe2\x82z\xac"},
	{"sign cut by a sign", "\xe2\x82é", bad + bad + "é", "\xe2\x82é"},
	{"sign cut by a byte 0", "\xc3\x00\xa9", bad + bad + bad, "\xc3\x00\xa9"},
}

func TestMayOfEdges(t *testing.T) {
	for _, c := range edges {
		if got, want := May(c.in), c.in == c.norm; got != want {
			t.Errorf("%s: May(%q) = %v, want %v", c.name, c.in, got, want)
		}
	}
}

func TestNormOfEdges(t *testing.T) {
	for _, c := range edges {
		if got := Norm(c.in); got != c.norm {
			t.Errorf("%s: Norm(%q) = %q, want %q", c.name, c.in, got, c.norm)
		}
	}
}

func TestLowerOfEdges(t *testing.T) {
	for _, c := range edges {
		if got := Lower(c.in); got != c.lower {
			t.Errorf("%s: Lower(%q) = %q, want %q", c.name, c.in, got, c.lower)
		}
	}
}

// TestAllSigns writes each number as UTF-8 by hand, in each length that holds it: just the shortest one of a number that is a sign may be.
func TestAllSigns(t *testing.T) {
	for r := range 0x200000 {
		for length := 1; length <= 4; length++ {
			s, fits := written(r, length)
			if !fits {
				continue
			}
			may := length == shortest(r) && r != 0 && (r < 0xd800 || r > 0xdfff) && r <= 0x10ffff
			want := strings.Repeat(bad, length)
			if may {
				want = s
			}
			if got := May(s); got != may {
				t.Fatalf("May(%q) = %v, want %v", s, got, may)
			}
			if got := Norm(s); got != want {
				t.Fatalf("Norm(%q) = %q, want %q", s, got, want)
			}
		}
	}
}

// written gives a number in that many bytes after UTF-8's pattern; false, if they don't hold it.
func written(r, length int) (string, bool) {
	switch length {
	case 1:
		return string([]byte{byte(r)}), r < 0x80
	case 2:
		return string([]byte{byte(0xc0 | r>>6), byte(0x80 | r&63)}), r < 0x800
	case 3:
		return string([]byte{byte(0xe0 | r>>12), byte(0x80 | r>>6&63), byte(0x80 | r&63)}), r < 0x10000
	}
	return string([]byte{byte(0xf0 | r>>18), byte(0x80 | r>>12&63), byte(0x80 | r>>6&63), byte(0x80 | r&63)}), true
}

// shortest gives the least number of bytes that hold a number.
func shortest(r int) int {
	switch {
	case r < 0x80:
		return 1
	case r < 0x800:
		return 2
	case r < 0x10000:
		return 3
	}
	return 4
}

// TestRowsOfEdgeBytes holds all rows of up to five bytes at which UTF-8's rules turn against a reading that follows the words of the promise.
func TestRowsOfEdgeBytes(t *testing.T) {
	turns := []byte{0, 'A', 0x7f, 0x80, 0x8f, 0x90, 0x9f, 0xa0, 0xbf, 0xc1, 0xc2, 0xdf, 0xe0, 0xed, 0xef, 0xf0, 0xf4, 0xf5, 0xff}
	var walk func(row []byte)
	walk = func(row []byte) {
		s := string(row)
		want := slowNorm(s)
		if got := Norm(s); got != want {
			t.Fatalf("Norm(%q) = %q, want %q", s, got, want)
		}
		if got := May(s); got != (s == want) {
			t.Fatalf("May(%q) = %v", s, got)
		}
		if len(row) == 5 {
			return
		}
		for _, c := range turns {
			walk(append(row, c))
		}
	}
	walk(make([]byte, 0, 5))
}

// slowNorm tries at each place whether one of the four lengths gives a sign.
func slowNorm(s string) string {
	var out []byte
	for len(s) > 0 {
		n := slowSign(s)
		if n == 0 {
			out = append(out, bad...)
			s = s[1:]
			continue
		}
		out = append(out, s[:n]...)
		s = s[n:]
	}
	return string(out)
}

// slowSign gives the length of the sign that s begins with; 0, if it begins with none.
func slowSign(s string) int {
	for length := 1; length <= 4 && length <= len(s); length++ {
		r := number(s[:length])
		again, fits := written(r, length)
		if fits && again == s[:length] && length == shortest(r) && r != 0 && (r < 0xd800 || r > 0xdfff) && r <= 0x10ffff {
			return length
		}
	}
	return 0
}

// number gives what the bytes of a sign would hold, whether or not they are one.
func number(s string) int {
	if len(s) == 1 {
		return int(s[0] & 0x7f)
	}
	r := int(s[0]) & (0x7f >> len(s))
	for i := 1; i < len(s); i++ {
		r = r<<6 | int(s[i]&63)
	}
	return r
}

func TestLowerOfAllBytes(t *testing.T) {
	for c := range 256 {
		want := byte(c)
		if at := strings.IndexByte("ABCDEFGHIJKLMNOPQRSTUVWXYZ", want); at >= 0 {
			want = "abcdefghijklmnopqrstuvwxyz"[at]
		}
		in := string([]byte{'A', byte(c), 'z'})
		if got := Lower(in); got != string([]byte{'a', want, 'z'}) {
			t.Errorf("Lower(%q) = %q", in, got)
		}
	}
}

func TestLongTexts(t *testing.T) {
	for _, c := range edges {
		times := api.MaxText / (len(c.in) + 1)
		in, norm, lower := strings.Repeat(c.in+" ", times), strings.Repeat(c.norm+" ", times), strings.Repeat(c.lower+" ", times)
		if May(in) != (in == norm) || Norm(in) != norm || Lower(in) != lower {
			t.Errorf("%s, %d times: wrong", c.name, times)
		}
	}
	if last := strings.Repeat("a", api.MaxText-1) + "\x00"; May(last) {
		t.Error("a byte 0 at the end of a long text is not seen")
	}
}

// TestAtOneTime: calls from several goroutines answer alike.
func TestAtOneTime(t *testing.T) {
	var all sync.WaitGroup
	for range 8 {
		all.Go(func() {
			for _, c := range edges {
				if May(c.in) != (c.in == c.norm) || Norm(c.in) != c.norm || Lower(c.in) != c.lower {
					t.Errorf("%s: wrong", c.name)
				}
			}
		})
	}
	all.Wait()
}
