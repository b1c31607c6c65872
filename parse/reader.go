package parse

import "synchrony/api"

// reader reads tokens one by one. It panics with a fault where they are not as they must be.
type reader struct {
	tokens []api.Token // the last one, which has no kind, is the end of the text
	next   int         // the index of the token that is read next
	enums  []api.Enum
	tags   map[string]constant
}

// constant is a value of a type.
type constant struct {
	t, v int
}

func newReader(tokens []api.Token, size int, enums []api.Enum) *reader {
	r := &reader{tokens: append(tokens, api.Token{At: size}), tags: map[string]constant{}}
	for _, x := range enums {
		r.know(x)
	}
	return r
}

// know adds an enumeration. A tag that an earlier one has, or that is repeated, keeps its meaning.
func (r *reader) know(x api.Enum) {
	t := api.TEnum + len(r.enums)
	r.enums = append(r.enums, x)
	for v, tag := range x.Tags {
		if _, known := r.tags[tag]; !known {
			r.tags[tag] = constant{t, v}
		}
	}
}

func (r *reader) peek() api.Token { return r.tokens[r.next] }

// following returns the token after the next one, which is not the end.
func (r *reader) following() api.Token { return r.tokens[r.next+1] }

// skip returns the next token, which is not the end, and goes on behind it.
func (r *reader) skip() api.Token {
	r.next++
	return r.tokens[r.next-1]
}

// fail reports an error at the next token.
func (r *reader) fail(e api.Errno) { r.failAt(r.next, e) }

func (r *reader) failAt(token int, e api.Errno) { panic(fault{r.tokens[token].At, e}) }

func (r *reader) end() {
	if r.next != len(r.tokens)-1 {
		r.fail(api.ErrForm)
	}
}

// room reports that the next token begins an element for which a list of n elements has no room.
func (r *reader) room(n, most int) {
	if n >= most {
		r.fail(api.ErrLimit)
	}
}

// written reports whether a token is this keyword or symbol. The text of a periodic word can be equal to a symbol.
func written(t api.Token, text string) bool {
	return t.Text == text && (t.Kind == api.TokKeyword || t.Kind == api.TokSymbol)
}

func (r *reader) is(text string) bool { return written(r.peek(), text) }

// take skips this keyword or symbol, if it comes next, and reports whether it did.
func (r *reader) take(text string) bool {
	if !r.is(text) {
		return false
	}
	r.skip()
	return true
}

func (r *reader) expect(text string) {
	if !r.take(text) {
		r.fail(api.ErrForm)
	}
}

func (r *reader) isIdent() bool { return r.peek().Kind == api.TokIdent }

func (r *reader) ident() string {
	if !r.isIdent() {
		r.fail(api.ErrForm)
	}
	return r.skip().Text
}

// identAfter reads an identifier that begins an element of a list, which has n elements and room for most.
func (r *reader) identAfter(n, most int) string {
	if r.isIdent() {
		r.room(n, most)
	}
	return r.ident()
}

// meaning returns what the next token means as a tag, if it is one.
func (r *reader) meaning() (constant, bool) {
	switch {
	case r.is("true"):
		return constant{api.TBool, 1}, true
	case r.is("false"):
		return constant{api.TBool, 0}, true
	case r.isIdent():
		c, ok := r.tags[r.peek().Text]
		return c, ok
	}
	return constant{}, false
}

// nextTag returns what the next token means, which must be a tag.
func (r *reader) nextTag() constant {
	c, ok := r.meaning()
	switch {
	case ok:
	case r.isIdent():
		r.fail(api.ErrName)
	default:
		r.fail(api.ErrForm)
	}
	return c
}

func (r *reader) tag() constant {
	c := r.nextTag()
	r.skip()
	return c
}

// sampling reads what follows a "when".
func (r *reader) sampling() api.On {
	c := r.tag()
	r.expect("(")
	name := r.ident()
	r.expect(")")
	return api.On{Name: name, T: c.t, Tag: c.v}
}
