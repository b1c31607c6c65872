package lex

import (
	"slices"
	"strings"
	"testing"

	"synchrony/api"
)

// expect checks that s has the tokens.
func expect(t *testing.T, s string, want ...api.Token) {
	t.Helper()
	l, n, e := Scan(s)
	if !slices.Equal(l, want) || n != 0 || e != api.OK {
		t.Errorf("Scan(%.100q) = %v, %d, %d, want %v", s, l, n, e, want)
	}
}

// refuse checks that the first wrong token of s is at the index n.
func refuse(t *testing.T, s string, n int, want api.Errno) {
	t.Helper()
	l, at, e := Scan(s)
	if len(l) != 0 || at != n || e != want {
		t.Errorf("Scan(%.100q) = %d tokens, %d, %d, want none, %d, %d", s, len(l), at, e, n, want)
	}
}

func ident(s string, at int) api.Token   { return api.Token{Kind: api.TokIdent, Text: s, At: at} }
func keyword(s string, at int) api.Token { return api.Token{Kind: api.TokKeyword, Text: s, At: at} }
func num(s string, at int) api.Token     { return api.Token{Kind: api.TokNumber, Text: s, At: at} }
func periodic(s string, at int) api.Token {
	return api.Token{Kind: api.TokWord, Text: s, At: at}
}
func sym(s string, at int) api.Token { return api.Token{Kind: api.TokSymbol, Text: s, At: at} }

// The tests of Scan are P3.1.

func TestScanExamples(t *testing.T) {
	expect(t, "")
	expect(t, "x<=12 -- y", ident("x", 0), sym("<=", 1), num("12", 3))
	expect(t, "'1(01)'", periodic("1(01)", 0))
	expect(t, "node f(a:int)", keyword("node", 0), ident("f", 5), sym("(", 6), ident("a", 7), sym(":", 8), keyword("int", 9), sym(")", 12))
	refuse(t, "a 01", 2, api.ErrForm)
}

func TestScanBlanksAndRemarks(t *testing.T) {
	expect(t, " \t\r\n\n")
	expect(t, "--")
	expect(t, "\n--x")
	expect(t, "-- a\r b\n--\n  --- c\nd--e", ident("d", 19))
	expect(t, "a\tb\rc\nd e", ident("a", 0), ident("b", 2), ident("c", 4), ident("d", 6), ident("e", 8))
	expect(t, "1-- '\x00\xff# 01\n2", num("1", 0), num("2", 12))
	expect(t, "a-->b\n->", ident("a", 0), sym("->", 6))
	expect(t, "a<--b", ident("a", 0), sym("<", 1))
	expect(t, "--\n\r \t--\n\ta", ident("a", 10))
	expect(t, "- -", sym("-", 0), sym("-", 2))
	for _, s := range []string{"\v", "\f", "\u00a0", "\x00"} {
		refuse(t, "a "+s+" b", 2, api.ErrForm)
	}
}

func TestScanNames(t *testing.T) {
	for _, s := range keywords() {
		expect(t, s, keyword(s, 0))
		expect(t, s+"_ "+s+"1", ident(s+"_", 0), ident(s+"1", len(s)+2))
		expect(t, strings.ToUpper(s), ident(strings.ToUpper(s), 0))
		expect(t, s[:len(s)-1]+"("+s, ident(s[:len(s)-1], 0), sym("(", len(s)-1), keyword(s, len(s)))
	}
	expect(t, "aZ_09 A z x__", ident("aZ_09", 0), ident("A", 6), ident("z", 8), ident("x__", 10))
	expect(t, "a'0'b", ident("a", 0), periodic("0", 1), ident("b", 4))
	refuse(t, "_x", 0, api.ErrForm)
	refuse(t, "x_ _", 3, api.ErrForm)
	refuse(t, "xé", 1, api.ErrForm)
}

func TestScanLongNames(t *testing.T) {
	for _, s := range []string{strings.Repeat("a", 40), "Z" + strings.Repeat("0", 39), "b" + strings.Repeat("_", 39)} {
		expect(t, s, ident(s, 0))
		expect(t, " "+s+"-"+s, ident(s, 1), sym("-", 41), ident(s, 42))
		for _, c := range []string{"a", "0", "_"} {
			refuse(t, s+c, 0, api.ErrLimit)
			refuse(t, "x "+s+c+" #", 2, api.ErrLimit)
		}
	}
	refuse(t, strings.Repeat("if", 1000), 0, api.ErrLimit)
}

func TestScanNumbers(t *testing.T) {
	for _, s := range []string{"0", "1", "9", "10", "999", "10000", "32767", "32768"} {
		expect(t, s, num(s, 0))
		expect(t, s+"x", num(s, 0), ident("x", len(s)))
		expect(t, "-"+s+"-", sym("-", 0), num(s, 1), sym("-", 1+len(s)))
	}
	for _, s := range []string{"32769", "40000", "65536", "98304", "100000", "9223372036854775807", "9223372036854775808", "18446744073709551616", "18446744073709551617", strings.Repeat("1", 60000)} {
		refuse(t, s, 0, api.ErrRange)
		refuse(t, "a+"+s+"+01", 2, api.ErrRange)
	}
	for _, s := range []string{"00", "01", "032768", "032769", "0000", "0" + strings.Repeat("9", 100)} {
		refuse(t, s, 0, api.ErrForm)
		refuse(t, "(-"+s+"+40000", 2, api.ErrForm)
	}
	expect(t, "0 0x 1-", num("0", 0), num("0", 2), ident("x", 3), num("1", 5), sym("-", 6))
	refuse(t, "1_", 1, api.ErrForm)
}

func TestScanWords(t *testing.T) {
	for _, s := range []string{"", "0", "1", "(", ")", ")(", "01()10", "1(01)", strings.Repeat("01", 30000)} {
		expect(t, "'"+s+"'", periodic(s, 0))
		expect(t, "a'"+s+"''1'", ident("a", 0), periodic(s, 1), periodic("1", 3+len(s)))
	}
	for _, s := range []string{"'", "'1", "'1 '", "' 1'", "'2'", "'1\n'", "'1--'", "'\x00'", "'0a'", "'((("} {
		refuse(t, s, 0, api.ErrForm)
		refuse(t, "x '1' "+s+" '", 6, api.ErrForm)
	}
	refuse(t, "'1''", 3, api.ErrForm)
}

func TestScanSymbols(t *testing.T) {
	for _, a := range symbols() {
		expect(t, a, sym(a, 0))
		expect(t, "x"+a+"1", ident("x", 0), sym(a, 1), num("1", 1+len(a)))
	}
	expect(t, "<>=", sym("<>", 0), sym("=", 2))
	expect(t, "<=>", sym("<=", 0), sym(">", 2))
	expect(t, "<->", sym("<", 0), sym("->", 1))
	expect(t, "->=", sym("->", 0), sym("=", 2))
	expect(t, "=>", sym("=", 0), sym(">", 1))
	expect(t, "><", sym(">", 0), sym("<", 1))
	expect(t, "||:=", sym("|", 0), sym("|", 1), sym(":", 2), sym("=", 3))
}

func TestScanEachByte(t *testing.T) {
	for c := range 256 {
		compare(t, string([]byte{byte(c)}))
		compare(t, string([]byte{'a', byte(c)}))
		compare(t, string([]byte{'1', byte(c), '1'}))
		compare(t, string([]byte{'\'', byte(c), '\''}))
		compare(t, string([]byte{'-', byte(c), '-', 'x', '\n', 'y'}))
		compare(t, string([]byte{'<', byte(c)}))
	}
}

func TestScanShortTexts(t *testing.T) {
	for n := range 5 {
		for _, s := range texts([]string{"a", "if", "0", "1", "_", "'", "(", "-", ">", "<", "=", " ", "\n", "#"}, n) {
			compare(t, s)
		}
	}
}

func TestScanFirstError(t *testing.T) {
	long := strings.Repeat("n", 41)
	wrong := map[string]api.Errno{long: api.ErrLimit, "007": api.ErrForm, "32769": api.ErrRange, "'2'": api.ErrForm, "#": api.ErrForm, "?": api.ErrForm}
	for a, e := range wrong {
		for b := range wrong {
			refuse(t, "x = "+a+" "+b, 4, e)
			refuse(t, "-- "+b+"\n"+a, len(b)+4, e)
		}
	}
}

func TestScanLongTexts(t *testing.T) {
	for _, c := range []string{" ", "\n", "-", "(", "1 ", "a,", "01", "'0'"} {
		s := strings.Repeat(c, 65537/len(c)+1)
		compare(t, s[:65535])
		compare(t, s[:65536])
		refuse(t, s[:65537], 0, api.ErrLimit)
		refuse(t, "#"+s, 0, api.ErrLimit)
	}
}

// TestJoin is P3.2.
func TestJoin(t *testing.T) {
	for _, x := range []struct {
		l    []api.Token
		want string
	}{
		{nil, ""},
		{[]api.Token{}, ""},
		{[]api.Token{ident("x", 7)}, "x"},
		{[]api.Token{periodic("1(01)", 0)}, "'1(01)'"},
		{[]api.Token{periodic("", 0), periodic("0", 0)}, "'' '0'"},
		{[]api.Token{keyword("node", 3), ident("f", 9), sym("(", 1), num("12", 2), sym("->", 0), periodic("(0)", 4)}, "node f ( 12 -> '(0)'"},
		{[]api.Token{{}, {Kind: 9, Text: "a b"}, {Kind: -1, Text: "'"}, {Kind: api.TokWord, Text: "?"}}, " a b ' '?'"},
	} {
		if g := Join(x.l); g != x.want {
			t.Errorf("Join(%v) = %q, want %q", x.l, g, x.want)
		}
	}
}

// TestIdent is P3.3.
func TestIdent(t *testing.T) {
	for _, s := range []string{"x", "Z", "x_1", "If", "iff", "i", "nodes", "a__", "a0", "tru", "xor_", strings.Repeat("a", 40), "a" + strings.Repeat("_", 39)} {
		if !Ident(s) {
			t.Errorf("Ident(%q) = false", s)
		}
	}
	for _, s := range []string{"", "_", "_x", "1x", "1", "x y", "x ", " x", "\nx", "x\n", "x--", "--x", "x-", "'1'", "(", "é", "xé", "x\x00", "x.y", strings.Repeat("a", 41), strings.Repeat("a", 1<<20)} {
		if Ident(s) {
			t.Errorf("Ident(%.50q) = true", s)
		}
	}
	for c := range 256 {
		s := string([]byte{byte(c)})
		letter := c >= 'a' && c <= 'z' || c >= 'A' && c <= 'Z'
		if Ident(s) != letter || Ident("x"+s) != (letter || c >= '0' && c <= '9' || c == '_') {
			t.Errorf("Ident of and with the byte %d: %v, %v", c, Ident(s), Ident("x"+s))
		}
	}
}

// TestKeyword is P3.3.
func TestKeyword(t *testing.T) {
	for _, s := range keywords() {
		if !Keyword(s) || Ident(s) {
			t.Errorf("%s: Keyword %v, Ident %v", s, Keyword(s), Ident(s))
		}
		for _, other := range []string{s + "x", s[1:], " " + s, s + " ", strings.ToUpper(s[:1]) + s[1:]} {
			if Keyword(other) && !slices.Contains(keywords(), other) {
				t.Errorf("Keyword(%q) = true", other)
			}
		}
	}
	for _, s := range []string{"", "x", "enum", "begin", "open", "real", "const", "1", "(", "current", "reset", "IF"} {
		if Keyword(s) {
			t.Errorf("Keyword(%q) = true", s)
		}
	}
}

// TestRoundTrip is P3.4: the tokens of a Join are those that were joined, but for At.
func TestRoundTrip(t *testing.T) {
	l := []string{"node f(a:int)returns(b:int)let b=if a<=-1then 0fby'1(01)'else a->b;tel--x\n", "", "--"}
	for n := range 4 {
		l = append(l, texts([]string{"a", "if", "0", "1", "'", "'(0)'", "(", "-", ">", "<", "=", " ", "\n"}, n)...)
	}
	for _, s := range l {
		first, _, e := Scan(s)
		if e != api.OK {
			continue
		}
		again, n, e := Scan(Join(first))
		for i := range first {
			first[i].At = 0
		}
		for i := range again {
			again[i].At = 0
		}
		if e != api.OK || n != 0 || !slices.Equal(first, again) {
			t.Errorf("%q: %v, then %v, %d, %d", s, first, again, n, e)
		}
	}
}

func TestRoundTripBeyondTheLimit(t *testing.T) {
	l, _, e := Scan(strings.Repeat("(", 65536))
	if e != api.OK || len(l) != 65536 {
		t.Fatalf("%d tokens, %d", len(l), e)
	}
	refuse(t, Join(l), 0, api.ErrLimit)
	expect(t, Join(l[:2]), sym("(", 0), sym("(", 2))
}

// TestCover is P3.4: what no token has consists of blanks and remarks, and each token is in the text at its index.
func TestCover(t *testing.T) {
	for n := range 5 {
		for _, s := range texts([]string{"a", "0", "'1'", "-", ">", "<", " ", "\n"}, n) {
			l, _, e := Scan(s)
			if e != api.OK {
				continue
			}
			end := 0
			for _, token := range append(l, api.Token{At: len(s)}) {
				separates(t, s, s[end:token.At])
				text := token.Text
				if token.Kind == api.TokWord {
					text = "'" + text + "'"
				}
				if !strings.HasPrefix(s[token.At:], text) {
					t.Errorf("%q: %v is not there", s, token)
				}
				end = token.At + len(text)
			}
		}
	}
}

// separates checks that a part of s has no tokens, by taking remarks from it line by line.
func separates(t *testing.T, s, gap string) {
	t.Helper()
	for line := range strings.SplitSeq(gap, "\n") {
		line, _, _ = strings.Cut(line, "--")
		if strings.Trim(line, " \t\r") != "" {
			t.Errorf("%q: %q belongs to no token", s, gap)
		}
	}
}

// TestScanOfIdentifiers is P3.4.
func TestScanOfIdentifiers(t *testing.T) {
	for n := range 5 {
		for _, s := range texts([]string{"a", "Q", "if", "7", "_", " ", "-"}, n) {
			l, _, e := Scan(s)
			one := e == api.OK && len(l) == 1 && l[0] == ident(s, 0)
			if Ident(s) != one {
				t.Errorf("Ident(%q) = %v, but Scan has %v, %d", s, Ident(s), l, e)
			}
		}
	}
}
