package names

import (
	"strings"
	"testing"

	"stole/api"
)

const (
	letters = "ABCDEFGHIJKLMNOPQRSTUVWXYZabcdefghijklmnopqrstuvwxyz"
	digits  = "0123456789"
)

func TestEachByte(t *testing.T) {
	for b := range 256 {
		s := string([]byte{byte(b)})
		begins := strings.Contains(letters+"_", s)
		holds := begins || strings.Contains(digits, s)
		if MayHold(byte(b)) != holds {
			t.Errorf("MayHold(%d) = %v", b, !holds)
		}
		for _, c := range []struct {
			name string
			want bool
		}{{s, begins}, {s + "a", begins}, {s + "1", begins}, {"a" + s, holds}, {"_" + s + "b", holds}, {strings.Repeat("n", api.MaxName-1) + s, holds}} {
			if Is(c.name) != c.want {
				t.Errorf("Is(%q) = %v", c.name, !c.want)
			}
		}
	}
}

func TestLengths(t *testing.T) {
	for n := range 3 * api.MaxName {
		for _, c := range []string{"a", "Z", "_"} {
			if want := 1 <= n && n <= api.MaxName; Is(strings.Repeat(c, n)) != want {
				t.Errorf("Is of %d times %s is %v", n, c, !want)
			}
		}
		if Is(strings.Repeat("7", n)) {
			t.Errorf("%d digits are a name", n)
		}
	}
	if Is(strings.Repeat("n", api.MaxText)) {
		t.Error("a name of MaxText bytes")
	}
}

func TestSignsAbove127(t *testing.T) {
	for _, s := range []string{"é", "aé", "ª", "aª", "ａ", "a·", "a٣", "²", "\ufeffa", "a\u0301"} {
		if Is(s) {
			t.Errorf("%q is a name", s)
		}
	}
}
