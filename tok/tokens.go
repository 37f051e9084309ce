package tok

import (
	"slices"
	"strings"

	"stole/api"
	"stole/known"
	"stole/lines"
	"stole/refs"
)

// A reader gathers a page's tokens.
type reader struct {
	page   string
	steps  table
	state  api.State
	tokens []api.Token
	text   int // where the text begins that is not told yet
	open   int // where the last `<` stands that a tag or a comment may come of
	value  int // where the attribute's value begins
	attrs  []api.Attr
	taken  bool // whether the last attribute that was read is the last of attrs, and not left away
}

// Tokens gives what a page is made of.
func Tokens(page string) ([]api.Token, api.Errno) {
	if len(page) > api.MaxText {
		return nil, api.ErrTokLong
	}
	r := reader{page: lines.OneEnd(page), steps: steppers(), state: Start()}
	for i := range len(r.page) {
		r.read(i)
	}
	if isLoose(r.state.At) {
		r.tellText(len(r.page), r.state.Held)
	}
	return r.tokens, api.OK
}

// isLoose tells whether what is read there is text, unless a tag or a comment comes of it.
func isLoose(at int) bool {
	return at < api.StateTagName || at >= api.StateHeld
}

// read takes the byte at i.
func (r *reader) read(i int) {
	was := r.state
	now := r.steps.step(was, r.page[i])
	r.state = now
	if now.At == api.StateTagOpen || now.At == api.StateHeldLt {
		r.open = i
	}
	switch {
	case was.At == api.StateHeldName && now.At == api.StateData:
		r.tellText(r.open, was.Held)
		r.tell(api.Token{Kind: api.TokEnd, Name: was.Held}, i+1)
	case isLoose(was.At) && !isLoose(now.At):
		r.tellText(r.open, was.Held)
	case inTag(was.At):
		r.readAttr(was, now, i)
		if isLoose(now.At) {
			r.tellTag(was, i)
		}
	case !isLoose(was.At) && isLoose(now.At):
		r.tellComment(was, i)
	}
}

// readAttr takes what the byte at i does for an attribute: it ends its name, begins or ends its value.
func (r *reader) readAttr(was, now api.State, i int) {
	if was.At == now.At {
		return
	}
	switch was.At {
	case api.StateAttrName:
		r.addAttr(was.Attr)
	case api.StateBeforeValue:
		r.value = i
		if now.At != api.StateBare {
			// The quote is not of the value.
			r.value = i + 1
		}
	case api.StateDouble, api.StateSingle, api.StateBare:
		if r.taken {
			r.attrs[len(r.attrs)-1].Value = refs.Decode(r.page[r.value:i])
		}
	}
}

// addAttr takes an attribute, unless there is one of this name, or there are as many as may be.
func (r *reader) addAttr(name string) {
	isName := func(a api.Attr) bool { return a.Name == name }
	r.taken = len(r.attrs) < api.MaxAttrs && !slices.ContainsFunc(r.attrs, isName)
	if r.taken {
		r.attrs = append(r.attrs, api.Attr{Name: name})
	}
}

// tell gives out a token behind which the byte at next stands.
func (r *reader) tell(t api.Token, next int) {
	r.tokens = append(r.tokens, t)
	r.text = next
	r.attrs = nil
}

// tellText gives out the text up to the byte at end, if there is any.
func (r *reader) tellText(end int, held string) {
	if r.text == end {
		return
	}
	text := r.page[r.text:end]
	switch known.Kind(held) {
	case api.ElemScript, api.ElemStyle:
		// A copy: an answer's texts are not to hold the page.
		text = strings.Clone(text)
	default:
		text = refs.Decode(text)
	}
	r.tell(api.Token{Kind: api.TokText, Text: text}, end)
}

// tellTag gives out the tag that the `>` at i ends, with the state ahead of it.
func (r *reader) tellTag(was api.State, i int) {
	if was.End {
		r.tell(api.Token{Kind: api.TokEnd, Name: was.Name}, i+1)
		return
	}
	r.tell(api.Token{Kind: api.TokStart, Name: was.Name, Attrs: r.attrs, Self: was.At == api.StateSelfClose}, i+1)
}

// tellComment gives out the comment that the `>` at i ends, with the state ahead of it.
func (r *reader) tellComment(was api.State, i int) {
	from, end := r.open+len("<!"), i
	if was.At == api.StateCommentEnd {
		from, end = r.open+len("<!--"), i-len("--")
	}
	r.tell(api.Token{Kind: api.TokComment, Text: strings.Clone(r.page[from:end])}, i+1)
}
