package byteset

import (
	"strings"
	"testing"
)

func TestSetsOfOneByte(t *testing.T) {
	for b := range 256 {
		for _, times := range []int{1, 2, 5} {
			set := Of(strings.Repeat(string([]byte{byte(b)}), times))
			for c := range 256 {
				if set.Has(byte(c)) != (b == c) {
					t.Errorf("the set of %d has %d: %v", b, c, b != c)
				}
			}
		}
	}
}

func TestSetsOfTexts(t *testing.T) {
	all := ""
	for b := range 256 {
		all += string([]byte{byte(b)})
	}
	for _, text := range []string{"", "a", "az", Alnum, "\x00\x3f\x40\x7f\x80\xbf\xc0\xff", "é\u2028", all[:100], all[100:], all} {
		set := Of(text)
		for c := range 256 {
			if want := strings.Contains(text, all[c:c+1]); set.Has(byte(c)) != want {
				t.Errorf("the set of %q has %d: %v", text, c, !want)
			}
		}
	}
}

func TestAlnum(t *testing.T) {
	set := Of(Alnum)
	for c := range 256 {
		want := c >= 'A' && c <= 'Z' || c >= 'a' && c <= 'z' || c >= '0' && c <= '9'
		if set.Has(byte(c)) != want {
			t.Errorf("letters and digits: %d: %v", c, !want)
		}
	}
}
