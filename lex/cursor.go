package lex

import "strings"

const blanks = "\t\n "

// cursor stands in a source, and goes from the left on.
type cursor struct {
	source string
	at     int
}

// rest gives what stands from here on.
func (c *cursor) rest() string { return c.source[c.at:] }

// upTo reads what stands ahead of the next mark; all, if there is none.
func (c *cursor) upTo(mark string) string {
	text, _, _ := strings.Cut(c.rest(), mark)
	c.at += len(text)
	return text
}

// skip passes over a mark, and tells whether it stood here.
func (c *cursor) skip(mark string) bool {
	if !strings.HasPrefix(c.rest(), mark) {
		return false
	}
	c.at += len(mark)
	return true
}

// skipBlanks passes over blanks, and tells whether there were any.
func (c *cursor) skipBlanks() bool {
	begin := c.at
	c.at = len(c.source) - len(strings.TrimLeft(c.rest(), blanks))
	return c.at > begin
}

// skipTrimMark passes over a trim mark behind a `{{`, with the blank that makes it one, and tells whether it stood here.
func (c *cursor) skipTrimMark() bool {
	return c.skip("- ") || c.skip("-\n") || c.skip("-\t")
}

// skipComment passes over a comment from behind its `/*` on; it tells whether a trim mark stands at its end, and whether it has one.
func (c *cursor) skipComment() (trim, ends bool) {
	c.upTo("*/")
	if !c.skip("*/") {
		return false, false
	}
	trim = c.skipBlanks() && c.skip("-")
	return trim, c.skip("}}")
}

// action reads an action up to its `}}`, and passes over that; it tells whether it stood there.
func (c *cursor) action() (string, bool) {
	begin := c.at
	for c.at < len(c.source) {
		end := c.at
		if c.skip("}}") {
			return c.source[begin:end], true
		}
		if c.take() == '"' {
			c.skipQuoted()
		}
	}
	return "", false
}

// skipQuoted passes over a text of an action from behind its first `"` on; over all, if it does not end.
func (c *cursor) skipQuoted() {
	for c.at < len(c.source) {
		switch c.take() {
		case '"':
			return
		case '\\':
			c.take()
		}
	}
}

// take passes over a byte and gives it; at the end it gives 0, which means nothing here.
func (c *cursor) take() byte {
	if c.at == len(c.source) {
		return 0
	}
	b := c.source[c.at]
	c.at++
	return b
}
