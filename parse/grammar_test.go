package parse

import (
	"regexp"
	"slices"
	"strconv"
	"strings"

	"synchrony/api"
)

// chapter is the grammar of the chapter.
const chapter = `
program = { enum } { node }
enum    = "type" ID "=" ID { "|" ID } ";"
node    = "node" ID "(" [ decls ] ")" "returns" "(" decls ")" [ "var" decls ";" ]
          { "assume" expr ";" | "ensure" expr ";" } "let" { eq | auto } "tel"
decls   = decl { ";" decl }
decl    = ID ":" type { "when" tag "(" ID ")" }
type    = "bool" | "int" | ID
tag     = "true" | "false" | ID
eq      = ( ID | "(" ID { "," ID } ")" ) "=" expr ";"
auto    = "automaton" { state } "end"
state   = "state" ID [ "var" decls ";" ] { "unless" trans } "do" { eq | auto } { "until" trans } "done"
trans   = expr ( "then" | "continue" ) ID ";"

expr    = or [ ( "->" | "fby" ) expr ]
or      = and { ( "or" | "xor" ) and }
and     = not { "and" not }
not     = "not" not | cmp
cmp     = sum [ ( "=" | "<>" | "<" | "<=" | ">" | ">=" ) sum ]
sum     = prod { ( "+" | "-" ) prod }
prod    = un { ( "*" | "/" | "mod" ) un }
un      = "-" un | "pre" un | post
post    = primary { "when" tag "(" ID ")" }
primary = NUMBER | "-" NUMBER | "true" | "false" | ID | WORD
        | ID "(" [ expr { "," expr } ] ")" [ "every" primary ]
        | "if" expr "then" expr "else" expr
        | "merge" ID "(" tag "->" expr ")" { "(" tag "->" expr ")" }
        | "(" expr ")"
`

// enums are the enumerations of the tests.
func enums() []api.Enum {
	return []api.Enum{{Name: "Hue", Tags: []string{"Red", "Green", "Blue"}}, {Name: "One", Tags: []string{"Only"}}}
}

// meaningful is the chapter's grammar with only such names of types and tags as the enumerations have, and such merges as it permits. The tag Red is written Red in it.
func meaningful(enums []api.Enum) string {
	types, tags := []string{`"bool"`, `"int"`}, []string{`"true"`, `"false"`}
	merges := []string{`"merge" ID "(" "true" "->" expr ")" "(" "false" "->" expr ")"`}
	for _, x := range enums {
		types = append(types, x.Name)
		tags = append(tags, x.Tags...)
		merge := `"merge" ID`
		for _, tag := range x.Tags {
			merge += ` "(" ` + tag + ` "->" expr ")"`
		}
		merges = append(merges, merge)
	}
	return strings.NewReplacer(
		`"bool" | "int" | ID`, strings.Join(types, " | "),
		"tag     = "+`"true" | "false" | ID`, "tag = "+strings.Join(tags, " | "),
		`"merge" ID "(" tag "->" expr ")" { "(" tag "->" expr ")" }`, strings.Join(merges, " | "),
	).Replace(chapter)
}

// grammar has the rules of each nonterminal, and knows those that permit no tokens at all.
type grammar struct {
	rules    map[string][][]string
	nullable map[string]bool
}

var (
	ruleForm = regexp.MustCompile(`(?m)^(\w+) *=`)
	symForm  = regexp.MustCompile(`"[^"]*"|\w+|[][{}()|]`)
)

// read makes a grammar of the text of one; what is in brackets becomes a nonterminal of its own.
func read(text string) grammar {
	g := grammar{map[string][][]string{}, map[string]bool{}}
	heads := ruleForm.FindAllStringSubmatchIndex(text, -1)
	for i, h := range heads {
		end := len(text)
		if i+1 < len(heads) {
			end = heads[i+1][0]
		}
		name := text[h[2]:h[3]]
		g.rules[name], _ = g.alternatives(name, symForm.FindAllString(text[h[1]:end], -1))
	}
	for before := -1; before < len(g.nullable); {
		before = len(g.nullable)
		for name, rules := range g.rules {
			if slices.ContainsFunc(rules, func(rule []string) bool {
				return !slices.ContainsFunc(rule, func(s string) bool { return !g.nullable[s] })
			}) {
				g.nullable[name] = true
			}
		}
	}
	return g
}

// alternatives reads alternatives up to a closing bracket, and returns the symbols that follow.
func (g grammar) alternatives(name string, l []string) ([][]string, []string) {
	all, rule := [][]string{}, []string{}
	for len(l) > 0 && !strings.Contains(")]}", l[0]) {
		s := l[0]
		l = l[1:]
		switch s {
		case "|":
			all, rule = append(all, rule), []string{}
		case "(", "[", "{":
			part := name + "." + strconv.Itoa(len(g.rules))
			g.rules[part] = nil
			inner, rest := g.alternatives(part, l)
			l = rest[1:]
			if s == "{" {
				for i := range inner {
					inner[i] = append([]string{part}, inner[i]...)
				}
			}
			if s != "(" {
				inner = append(inner, []string{})
			}
			g.rules[part] = inner
			rule = append(rule, part)
		default:
			rule = append(rule, s)
		}
	}
	return append(all, rule), l
}

// matches reports whether a symbol of the grammar that is no nonterminal stands for the token.
func matches(symbol string, t api.Token) bool {
	switch symbol {
	case "ID":
		return t.Kind == api.TokIdent
	case "NUMBER":
		return t.Kind == api.TokNumber
	case "WORD":
		return t.Kind == api.TokWord
	}
	if symbol[0] == '"' {
		return symbol == `"`+t.Text+`"` && (t.Kind == api.TokKeyword || t.Kind == api.TokSymbol)
	}
	return t.Kind == api.TokIdent && t.Text == symbol
}

// item is a rule of which a part has been read, from a token on.
type item struct {
	name       string
	rule, done int
	from       int
}

// recognizer finds out which texts can begin what a grammar permits, by Earley's method: sets has the items after each token.
type recognizer struct {
	grammar
	sets [][]item
}

func recognize(g grammar, start string) *recognizer {
	r := &recognizer{grammar: g}
	var first []item
	for i := range g.rules[start] {
		first = append(first, item{start, i, 0, 0})
	}
	r.sets = [][]item{r.close(first)}
	return r
}

// close adds to the items of the next set those that follow from them.
func (r *recognizer) close(l []item) []item {
	here, seen := len(r.sets), map[item]bool{}
	for _, x := range l {
		seen[x] = true
	}
	add := func(x item) {
		if !seen[x] {
			seen[x] = true
			l = append(l, x)
		}
	}
	for i := 0; i < len(l); i++ {
		x := l[i]
		rule := r.rules[x.name][x.rule]
		if x.done < len(rule) {
			if s := rule[x.done]; r.rules[s] != nil {
				for k := range r.rules[s] {
					add(item{s, k, 0, here})
				}
				if r.nullable[s] {
					add(item{x.name, x.rule, x.done + 1, x.from})
				}
			}
			continue
		}
		if x.from == here {
			continue
		}
		for _, y := range r.sets[x.from] {
			if rule := r.rules[y.name][y.rule]; y.done < len(rule) && rule[y.done] == x.name {
				add(item{y.name, y.rule, y.done + 1, y.from})
			}
		}
	}
	return l
}

// goOn reads a token, if the grammar can continue with it, and reports whether it can.
func (r *recognizer) goOn(t api.Token) bool {
	var next []item
	for _, x := range r.sets[len(r.sets)-1] {
		if rule := r.rules[x.name][x.rule]; x.done < len(rule) && r.rules[rule[x.done]] == nil && matches(rule[x.done], t) {
			next = append(next, item{x.name, x.rule, x.done + 1, x.from})
		}
	}
	if len(next) == 0 {
		return false
	}
	r.sets = append(r.sets, r.close(next))
	return true
}

// complete reports whether the tokens so far are what the grammar permits.
func (r *recognizer) complete(start string) bool {
	for _, x := range r.sets[len(r.sets)-1] {
		if x.name == start && x.from == 0 && x.done == len(r.rules[start][x.rule]) {
			return true
		}
	}
	return false
}

// wrong returns the number of the first token with which the grammar cannot continue (the number of tokens is the end of the text), or -1.
func wrong(g grammar, start string, tokens []api.Token) int {
	r := recognize(g, start)
	for i, t := range tokens {
		if !r.goOn(t) {
			return i
		}
	}
	if !r.complete(start) {
		return len(tokens)
	}
	return -1
}

// expected returns the number of the first wrong token of a text whose numbers are less than 32768, which exceeds no limit, and whose transitions are to states; and the error. It returns -1 and OK if there is none.
func expected(general, special grammar, start string, tokens []api.Token) (int, api.Errno) {
	i := wrong(special, start, tokens)
	if i < 0 {
		return i, api.OK
	}
	if i == len(tokens) || i == wrong(general, start, tokens) || tokens[i].Kind != api.TokIdent {
		return i, api.ErrForm
	}
	if tokens[i-1].Text == "(" && (known(tokens[i].Text) || tokens[i-2].Text == ")") { // the tag of a branch, of which the first one must be that of some merge
		return i, api.ErrForm
	}
	return i, api.ErrName
}

// known reports whether a tag has this name.
func known(name string) bool {
	return slices.ContainsFunc(enums(), func(x api.Enum) bool { return slices.Contains(x.Tags, name) })
}
