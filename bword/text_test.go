package bword

import (
	"strings"
	"testing"

	"synchrony/api"
)

// TestText is P2.7.
func TestText(t *testing.T) {
	for _, s := range []string{"1(01)", "(0)", "10(1010)", "(1111)", times("0", 63) + "(0)", "(" + times("10", 32) + ")"} {
		if g, e := Text(word(s)); e != api.OK || g != s {
			t.Errorf("Text of %s: %s, error %d", s, g, e)
		}
	}
	for want, l := range invalid() {
		for _, v := range l {
			if g, e := Text(v); e != want || g != "" {
				t.Errorf("Text of %d and %d letters: %s, error %d", len(v.Head), len(v.Loop), g, e)
			}
		}
	}
}

// TestParse is P2.7.
func TestParse(t *testing.T) {
	for _, s := range []string{"1(01)", "(0)", "(1)", "10(1010)", "0(0)", times("0", 63) + "(0)", "(" + times("10", 32) + ")", times("1", 32) + "(" + times("0", 32) + ")"} {
		if g, e := Parse(s); e != api.OK || !same(g, word(s)) {
			t.Errorf("Parse(%s): %s, error %d", s, written(g), e)
		}
	}
}

// TestParseMalformed is P2.7.
func TestParseMalformed(t *testing.T) {
	for _, s := range []string{
		"", "1", "()", "1()", "(", ")", "(0", "0)", "0(", "1)0(", ")(", "(0)1", "(0)(1)", "((0))", "(0))", "((0)", "0(1)(1)", "(0)()",
		"(2)", "2(0)", "(a)", "(0 1)", " (0)", "(0) ", "(0)\n", "-(0)", "[0]", "(0]", "(0\x00)", "(\xff)", "(é)", "１(0)", "1.(0)",
		times("0", 66), times("0", 65) + "(", times("(", 66), times("0", 64) + "()", "x" + times("0", 62) + "(1)", times("\xff", 66),
	} {
		if g, e := Parse(s); e != api.ErrForm || !zero(g) {
			t.Errorf("Parse(%q): %s, error %d", s, written(g), e)
		}
	}
	for _, s := range []string{
		times("0", 64) + "(1)", "(" + times("0", 65) + ")", times("x", 67), times("0", 67), strings.Repeat("(", 1<<20), times("é", 34),
	} {
		if g, e := Parse(s); e != api.ErrLimit || !zero(g) {
			t.Errorf("Parse of %d bytes: %s, error %d", len(s), written(g), e)
		}
	}
}

// TestParseOfAllShortTexts is P2.7: of the texts of few characters, those of words are parsed, and no others.
func TestParseOfAllShortTexts(t *testing.T) {
	words := map[string]bool{}
	for _, v := range all(4, 5) {
		words[written(v)] = true
	}
	texts := []string{""}
	for range 6 {
		var longer []string
		for _, s := range texts {
			for _, c := range []string{"0", "1", "(", ")", " "} {
				longer = append(longer, s+c)
			}
		}
		for _, s := range longer {
			g, e := Parse(s)
			if words[s] && (e != api.OK || written(g) != s) || !words[s] && (e != api.ErrForm || !zero(g)) {
				t.Fatalf("Parse(%q): %s, error %d", s, written(g), e)
			}
		}
		texts = longer
	}
}
