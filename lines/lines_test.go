package lines

import (
	"strings"
	"testing"
)

func TestOneEnd(t *testing.T) {
	for _, c := range []struct{ s, want string }{
		{"", ""}, {"a", "a"}, {"\n", "\n"}, {"\r", "\n"}, {"\r\n", "\n"}, {"\n\r", "\n\n"}, {"\r\r", "\n\n"}, {"\r\r\n", "\n\n"}, {"\r\n\r", "\n\n"}, {"\r\n\n", "\n\n"}, {"\r\n\r\n", "\n\n"},
		{"a\rb\r\nc\nd\r", "a\nb\nc\nd\n"}, {"\v\f\x85\u2028", "\v\f\x85\u2028"}, {"\xff\r\x00", "\xff\n\x00"}, {`\r\n`, `\r\n`},
		{strings.Repeat("\r", 1000), strings.Repeat("\n", 1000)}, {strings.Repeat("\r\n", 1000), strings.Repeat("\n", 1000)},
	} {
		if got := OneEnd(c.s); got != c.want {
			t.Errorf("OneEnd(%.80q) = %.80q, want %.80q", c.s, got, c.want)
		}
	}
}
