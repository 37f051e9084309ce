package json

import (
	"strings"

	"stole/api"
)

// minusZero are the bits of -0.
const minusZero = 1 << 63

// Surrogates: the first of each half, what lies behind both, and the first sign that two of them tell.
const (
	highHalf   = 0xD800
	lowHalf    = 0xDC00
	afterHalf  = 0xE000
	firstByTwo = 0x10000
)

// reader reads a JSON text from the left on; what it cannot read it ends by a panic with an api.Errno.
type reader struct {
	text string
	at   int
}

// read gives the value that s tells, without asking whether it may be.
func read(s string) (v api.Value, err api.Errno) {
	defer func() {
		thrown := recover()
		if thrown == nil {
			return
		}
		fault, is := thrown.(api.Errno)
		if !is {
			panic(thrown)
		}
		v, err = api.Value{}, fault
	}()
	r := reader{text: s}
	v = r.value(1)
	r.skipBlanks()
	if r.at < len(s) {
		panic(api.ErrJsonForm)
	}
	return v, api.OK
}

// value reads a value that stands so deep; it goes no deeper than a value may be, so that many brackets take no more room than few.
func (r *reader) value(deep int) api.Value {
	if deep > api.MaxDeep {
		panic(api.ErrJsonForm)
	}
	r.skipBlanks()
	switch r.peek() {
	case 'n':
		r.word("null")
		return api.Value{}
	case 't':
		r.word("true")
		return api.Value{Kind: api.ValueBool, Int: 1}
	case 'f':
		r.word("false")
		return api.Value{Kind: api.ValueBool}
	case '"':
		return api.Value{Kind: api.ValueText, Text: r.quoted()}
	case '[':
		return r.list(deep)
	case '{':
		return r.record(deep)
	}
	return r.number()
}

func (r *reader) list(deep int) api.Value {
	v := api.Value{Kind: api.ValueList}
	r.row("[]", func() {
		v.Items = append(v.Items, r.value(deep+1))
	})
	return v
}

func (r *reader) record(deep int) api.Value {
	v := api.Value{Kind: api.ValueRecord}
	r.row("{}", func() {
		r.skipBlanks()
		v.Keys = append(v.Keys, r.quoted())
		r.skipBlanks()
		r.word(":")
		v.Items = append(v.Items, r.value(deep+1))
	})
	return v
}

// row reads parts, with a `,` between each and the next, within two brackets.
func (r *reader) row(brackets string, part func()) {
	r.word(brackets[:1])
	r.skipBlanks()
	if r.skip(brackets[1]) {
		return
	}
	for {
		part()
		r.skipBlanks()
		if r.skip(brackets[1]) {
			return
		}
		r.word(",")
	}
}

// number reads a whole number; a fraction or an exponent behind it is nothing that may stand behind a value.
func (r *reader) number() api.Value {
	below := r.skip('-')
	n := r.digits()
	switch {
	case below && n == 0:
		return api.Value{Kind: api.ValueReal, Bits: minusZero}
	case below:
		n = -n
	}
	return api.Value{Kind: api.ValueInt, Int: n}
}

// digits reads a number from 0 to MaxInt; behind a 0 ahead there are no more digits.
func (r *reader) digits() int {
	first := r.take()
	if !isDigit(first) {
		panic(api.ErrJsonForm)
	}
	n := int(first - '0')
	for n > 0 && isDigit(r.peek()) {
		n = n*10 + int(r.take()-'0')
		if n > api.MaxInt {
			panic(api.ErrJsonForm)
		}
	}
	return n
}

// quoted reads a text within quotes.
func (r *reader) quoted() string {
	r.word(`"`)
	var out strings.Builder
	for {
		switch c := r.take(); {
		case c == '"':
			return out.String()
		case c == '\\':
			out.WriteRune(r.escaped())
		case c < ' ':
			panic(api.ErrJsonForm)
		default:
			out.WriteByte(c)
		}
	}
}

// escaped reads what stands behind a `\`.
func (r *reader) escaped() rune {
	switch c := r.take(); c {
	case '"', '\\', '/':
		return rune(c)
	case 'b':
		return '\b'
	case 'f':
		return '\f'
	case 'n':
		return '\n'
	case 'r':
		return '\r'
	case 't':
		return '\t'
	case 'u':
		return r.numbered()
	}
	panic(api.ErrJsonForm)
}

// numbered reads the sign behind `\u`: of two surrogates one, of a lone one none.
func (r *reader) numbered() rune {
	high := r.unit()
	if high < highHalf || high >= afterHalf {
		return high
	}
	if high >= lowHalf {
		panic(api.ErrJsonForm)
	}
	r.word(`\u`)
	low := r.unit()
	if low < lowHalf || low >= afterHalf {
		panic(api.ErrJsonForm)
	}
	return firstByTwo + (high-highHalf)<<10 + (low - lowHalf)
}

// unit reads four digits of sixteen.
func (r *reader) unit() rune {
	n := rune(0)
	for range 4 {
		n = n<<4 | digitOfSixteen(r.take())
	}
	return n
}

func digitOfSixteen(c byte) rune {
	switch {
	case isDigit(c):
		return rune(c - '0')
	case c >= 'a' && c <= 'f':
		return rune(c-'a') + 10
	case c >= 'A' && c <= 'F':
		return rune(c-'A') + 10
	}
	panic(api.ErrJsonForm)
}

func isDigit(c byte) bool { return c >= '0' && c <= '9' }

// skipBlanks passes over the bytes that may stand around all signs.
func (r *reader) skipBlanks() {
	for r.skip(' ') || r.skip('\n') || r.skip('\t') || r.skip('\r') {
	}
}

// word passes over a text that must stand here.
func (r *reader) word(text string) {
	if !strings.HasPrefix(r.text[r.at:], text) {
		panic(api.ErrJsonForm)
	}
	r.at += len(text)
}

// skip passes over the byte c, and tells whether it stood here.
func (r *reader) skip(c byte) bool {
	if r.peek() != c {
		return false
	}
	r.at++
	return true
}

// take passes over the byte that stands here, and gives it.
func (r *reader) take() byte {
	if r.at == len(r.text) {
		panic(api.ErrJsonForm)
	}
	c := r.text[r.at]
	r.at++
	return c
}

// peek gives the byte that stands here; at the end 0, which a text that may be has nowhere.
func (r *reader) peek() byte {
	if r.at == len(r.text) {
		return 0
	}
	return r.text[r.at]
}
