package pipe

import (
	"stole/api"
)

// cursor stands in a row of words, and goes from the left on.
type cursor struct {
	words []api.Word
	at    int
}

// commands reads commands with a WordPipe between each two, up to a word that is of none. Whether each may be is not asked here.
func (c *cursor) commands() []api.Cmd {
	p := []api.Cmd{c.command()}
	for c.skipPipe() {
		p = append(p, c.command())
	}
	return p
}

// command reads a function, if one stands here, and arguments, up to a word that is none.
func (c *cursor) command() api.Cmd {
	cmd := api.Cmd{Fn: c.function()}
	for !c.isOver() {
		arg, is := argument(c.words[c.at])
		if !is {
			break
		}
		cmd.Args = append(cmd.Args, arg)
		c.at++
	}
	return cmd
}

// function reads the name of a function; none, if none stands here.
func (c *cursor) function() string {
	if c.isOver() {
		return ""
	}
	w := c.words[c.at]
	if !hasOnlyText(w, api.WordName) || !isFunction(w.Text) {
		return ""
	}
	c.at++
	return w.Text
}

// skipPipe passes over a WordPipe, and tells whether it stood here.
func (c *cursor) skipPipe() bool {
	if c.isOver() {
		return false
	}
	w := c.words[c.at]
	if !hasOnlyText(w, api.WordPipe) || w.Text != "" {
		return false
	}
	c.at++
	return true
}

// isOver tells whether nothing is left.
func (c *cursor) isOver() bool { return c.at == len(c.words) }

// argument gives the argument that a word is, and whether it is one: whether it has no part that its Kind has not. Whether its parts are within their bounds is not asked here.
func argument(w api.Word) (api.Arg, bool) {
	switch w.Kind {
	case api.WordName:
		arg, is := constant(w.Text)
		return arg, is && hasOnlyText(w, api.WordName)
	case api.WordField:
		return api.Arg{Kind: api.ArgDot, Path: w.Path}, w.Text == "" && w.Int == 0
	case api.WordVar:
		return api.Arg{Kind: api.ArgVar, Name: w.Text, Path: w.Path}, w.Int == 0
	case api.WordInt:
		return api.Arg{Kind: api.ArgInt, Int: w.Int}, w.Text == "" && len(w.Path) == 0
	case api.WordText:
		return api.Arg{Kind: api.ArgText, Text: w.Text}, hasOnlyText(w, api.WordText)
	}
	return api.Arg{}, false
}

// constant gives the argument that a name is by itself, and whether it is one.
func constant(name string) (api.Arg, bool) {
	switch name {
	case "true":
		return api.Arg{Kind: api.ArgBool, Int: 1}, true
	case "false":
		return api.Arg{Kind: api.ArgBool}, true
	case "null":
		return api.Arg{Kind: api.ArgNull}, true
	}
	return api.Arg{}, false
}

// hasOnlyText tells whether a word is of a Kind, and has no part but its Text.
func hasOnlyText(w api.Word, kind int) bool {
	return w.Kind == kind && len(w.Path) == 0 && w.Int == 0
}
