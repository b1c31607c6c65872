package lex

import (
	"regexp"
	"slices"
	"strconv"
	"strings"
	"testing"

	"synchrony/api"
)

// keywords has the keywords as the chapter lists them.
func keywords() []string {
	return strings.Fields("assume and automaton bool continue do done else end ensure every false fby if int let merge mod node not or pre returns state tel then true type unless until var when xor")
}

// symbols has the symbols as the chapter lists them.
func symbols() []string { return strings.Fields("( ) : ; , = | -> <> <= >= < > + - * /") }

// part is a token, or what separates tokens (Kind 0), as the reference finds it.
type part struct {
	kind  int
	text  string
	error api.Errno
}

// patterns has the forms of tokens, longer ones first; the reference tries them in this order.
var patterns = []struct {
	form *regexp.Regexp
	kind int
}{
	{regexp.MustCompile(`^(--[^\n]*|[ \t\r\n])`), 0},
	{regexp.MustCompile(`^[a-zA-Z][a-zA-Z0-9_]*`), api.TokIdent},
	{regexp.MustCompile(`^[0-9]+`), api.TokNumber},
	{regexp.MustCompile(`^'[01()]*'`), api.TokWord},
	{regexp.MustCompile(`^(->|<>|<=|>=|[():;,=|<>+*/-])`), api.TokSymbol},
}

func reference(s string) part {
	for _, p := range patterns {
		text := p.form.FindString(s)
		if text == "" {
			continue
		}
		kind := p.kind
		switch {
		case kind == api.TokIdent && len(text) > 40:
			return part{error: api.ErrLimit}
		case kind == api.TokIdent && slices.Contains(keywords(), text):
			kind = api.TokKeyword
		case kind == api.TokNumber && len(text) > 1 && text[0] == '0':
			return part{error: api.ErrForm}
		case kind == api.TokNumber:
			if n, err := strconv.Atoi(text); err != nil || n > 32768 {
				return part{error: api.ErrRange}
			}
		}
		return part{kind, text, api.OK}
	}
	return part{error: api.ErrForm}
}

// scan is Scan by the reference.
func scan(s string) ([]api.Token, int, api.Errno) {
	if len(s) > 65536 {
		return nil, 0, api.ErrLimit
	}
	var l []api.Token
	for at := 0; at < len(s); {
		p := reference(s[at:])
		if p.error != api.OK {
			return nil, at, p.error
		}
		if p.kind != 0 {
			l = append(l, api.Token{Kind: p.kind, Text: strings.Trim(p.text, "'"), At: at})
		}
		at += len(p.text)
	}
	return l, 0, api.OK
}

// compare checks Scan(s) against the reference.
func compare(t *testing.T, s string) {
	t.Helper()
	l, n, e := Scan(s)
	wantL, wantN, wantE := scan(s)
	if !slices.Equal(l, wantL) || n != wantN || e != wantE {
		t.Fatalf("Scan(%.100q) = %v, %d, %d, want %v, %d, %d", s, l, n, e, wantL, wantN, wantE)
	}
}

// texts returns all texts of n of the letters.
func texts(letters []string, n int) []string {
	l := []string{""}
	for range n {
		var longer []string
		for _, s := range l {
			for _, c := range letters {
				longer = append(longer, s+c)
			}
		}
		l = longer
	}
	return l
}
