package words

import (
	"strings"

	"stole/api"
	"stole/names"
)

// reader reads an action from the left on; what it cannot read it ends by a panic with an api.Errno, so that the first one that it meets is told.
type reader struct {
	action string
	at     int
}

// words reads all words; beside an error it tells none of those ahead of it.
func (r *reader) words() (ws []api.Word, err api.Errno) {
	defer func() {
		thrown := recover()
		if thrown == nil {
			return
		}
		fault, is := thrown.(api.Errno)
		if !is {
			panic(thrown)
		}
		ws, err = nil, fault
	}()
	for r.skipBlanks(); !r.isOver(); r.skipBlanks() {
		ws = append(ws, r.word())
	}
	return ws, api.OK
}

// word reads a word, and asks for what must stand right behind it.
func (r *reader) word() api.Word {
	if r.skip("|") {
		return api.Word{Kind: api.WordPipe}
	}
	w := r.longWord()
	if !r.mayEnd() {
		panic(api.ErrWordsForm)
	}
	return w
}

// longWord reads a word other than WordPipe; its first byte tells which.
func (r *reader) longWord() api.Word {
	switch first := r.peek(); {
	case first == '-' || isDigit(first):
		return api.Word{Kind: api.WordInt, Int: r.number()}
	case r.skip(`"`):
		return api.Word{Kind: api.WordText, Text: r.quoted()}
	case r.skip(":="):
		return api.Word{Kind: api.WordSet}
	case r.skip("$"):
		return r.variable()
	case r.skip("."):
		return r.field()
	}
	return api.Word{Kind: api.WordName, Text: r.name()}
}

// variable reads what stands behind a `$`.
func (r *reader) variable() api.Word {
	w := api.Word{Kind: api.WordVar, Text: r.name()}
	if r.skip(".") {
		w.Path = r.path()
	}
	return w
}

// field reads what stands behind a `.` that begins a word: nothing, too.
func (r *reader) field() api.Word {
	w := api.Word{Kind: api.WordField}
	if !r.mayEnd() {
		w.Path = r.path()
	}
	return w
}

// path reads names with a `.` between each two.
func (r *reader) path() []string {
	path := []string{r.name()}
	for r.skip(".") {
		if len(path) == api.MaxPath {
			panic(api.ErrWordsForm)
		}
		path = append(path, r.name())
	}
	return path
}

// name reads a name. It is a copy, so that it holds no action.
func (r *reader) name() string {
	begin := r.at
	for names.MayHold(r.peek()) {
		r.at++
	}
	name := r.action[begin:r.at]
	if !names.Is(name) {
		panic(api.ErrWordsForm)
	}
	return strings.Clone(name)
}

// number reads a whole number.
func (r *reader) number() int {
	if r.skip("-") {
		return -r.digits()
	}
	return r.digits()
}

// digits reads a number from 0 to MaxInt; it ends at the first digit that makes it greater, ahead of one that no int holds.
func (r *reader) digits() int {
	if !isDigit(r.peek()) {
		panic(api.ErrWordsInt)
	}
	n := 0
	for ; isDigit(r.peek()); r.at++ {
		n = n*10 + int(r.peek()-'0')
		if n > api.MaxInt {
			panic(api.ErrWordsInt)
		}
	}
	return n
}

// quoted reads a text from behind its first `"` on.
func (r *reader) quoted() string {
	var out strings.Builder
	for {
		switch c := r.take(); c {
		case '"':
			return out.String()
		case '\\':
			out.WriteByte(r.escaped())
		default:
			out.WriteByte(c)
		}
	}
}

// escaped reads what stands behind a `\`, and gives the byte that it means.
func (r *reader) escaped() byte {
	switch c := r.take(); c {
	case '"', '\\':
		return c
	case 'n':
		return '\n'
	case 't':
		return '\t'
	}
	panic(api.ErrWordsText)
}

// mayEnd tells whether a word may end here.
func (r *reader) mayEnd() bool {
	return r.isOver() || isBlank(r.peek()) || r.peek() == '|'
}

// skipBlanks passes over blanks.
func (r *reader) skipBlanks() {
	for isBlank(r.peek()) {
		r.at++
	}
}

// skip passes over a sign, and tells whether it stood here.
func (r *reader) skip(sign string) bool {
	if !strings.HasPrefix(r.action[r.at:], sign) {
		return false
	}
	r.at += len(sign)
	return true
}

// take passes over a byte of a text, and gives it; at the end there is none, and none that ends the text.
func (r *reader) take() byte {
	if r.isOver() {
		panic(api.ErrWordsText)
	}
	c := r.action[r.at]
	r.at++
	return c
}

// peek gives the byte that stands here; at the end 0, which begins no word, and stands in none but a text.
func (r *reader) peek() byte {
	if r.isOver() {
		return 0
	}
	return r.action[r.at]
}

// isOver tells whether nothing is left.
func (r *reader) isOver() bool { return r.at == len(r.action) }

func isBlank(c byte) bool { return c == ' ' || c == '\t' || c == '\n' }

func isDigit(c byte) bool { return c >= '0' && c <= '9' }
