package asm

import (
	"regexp"
	"strconv"
	"strings"

	"synchrony/api"
)

// table is that of the chapter.
const table = `
| ILoad 1 | load | A register, B value |
| IMove 2 | move | A register, B register |
| IRead 3 | read | A register, B memory |
| IWrite 4 | write | A memory, B register |
| IUnary 5 | unary | A register, B register, C operator (OpNot or OpNeg) |
| IApply 6 | apply | A register, B register, C register, D operator (OpAnd to OpGe) |
| IJump 7 | jump | B target |
| IZero 8 | zero | A register, B target |
| ICall 9 | call | A routine, B memory, C register, D register |
| IReset 10 | reset | A routine, B memory |
`

// row is a row of the table: the kinds of the fields, in order, with their letters.
type row struct {
	word   string
	fields []string
}

// rows has the rows by their operations.
var rows = readRows()

func readRows() map[int]row {
	l := map[int]row{}
	for _, m := range regexp.MustCompile(`\| I\w+ (\d+) \| (\w+) \| (.*) \|`).FindAllStringSubmatch(table, -1) {
		op, _ := strconv.Atoi(m[1])
		l[op] = row{m[2], strings.Split(m[3], ", ")}
	}
	return l
}

// field returns the field of an instruction with a letter.
func field(i api.Instr, letter byte) int {
	return map[byte]int{'A': i.A, 'B': i.B, 'C': i.C, 'D': i.D}[letter]
}

func between(v, low, high int) bool { return v >= low && v <= high }

// as reports whether the numbers from first on are as many of those below limit as count says.
func as(first, count, limit int) bool {
	if first < 0 || first > limit {
		return false
	}
	for range count {
		if first >= limit {
			return false
		}
		first++
	}
	return true
}

func refInstr(im api.Image, k, at int) api.Errno {
	x := im.Routines[k]
	i := x.Code[at]
	r, ok := rows[i.Op]
	if !ok {
		return api.ErrForm
	}
	for _, letter := range []byte("ABCD") {
		has := false
		for _, f := range r.fields {
			has = has || f[0] == letter
		}
		if !has && field(i, letter) != 0 {
			return api.ErrForm
		}
	}
	for _, f := range r.fields {
		switch v := field(i, f[0]); f[2:] {
		case "operator (OpNot or OpNeg)":
			ok = v == api.OpNot || v == api.OpNeg
		case "operator (OpAnd to OpGe)":
			ok = between(v, api.OpAnd, api.OpGe)
		case "target":
			ok = between(v, at+1, len(x.Code))
		}
		if !ok {
			return api.ErrForm
		}
	}
	if i.Op == api.ICall || i.Op == api.IReset {
		if !between(i.A, 0, k-1) || !as(i.B, len(im.Routines[i.A].Init), len(x.Init)) {
			return api.ErrRange
		}
		if c := im.Routines[i.A]; i.Op == api.ICall && (!as(i.C, len(c.In), x.Regs) || !as(i.D, len(c.Out), x.Regs)) {
			return api.ErrRange
		}
		return api.OK
	}
	for _, f := range r.fields {
		switch v := field(i, f[0]); f[2:] {
		case "register":
			ok = between(v, 0, x.Regs-1)
		case "memory":
			ok = between(v, 0, len(x.Init)-1)
		case "value":
			ok = between(v, api.MinInt, api.MaxInt)
		}
		if !ok {
			return api.ErrRange
		}
	}
	return api.OK
}

var routineName = regexp.MustCompile(`\A[a-zA-Z0-9_]{1,40}\z`)

func refRoutine(im api.Image, k int) api.Errno {
	x := im.Routines[k]
	if !routineName.MatchString(x.Name) {
		return api.ErrName
	}
	if len(x.In) > api.MaxPorts || len(x.Out) > api.MaxPorts || len(x.Init) > api.MaxMemory || len(x.Code) > api.MaxCode || x.Regs > api.MaxCode {
		return api.ErrLimit
	}
	for _, l := range [][]int{x.In, x.Out} {
		for _, t := range l {
			if t != api.TBool && t != api.TInt && !between(t, api.TEnum, api.TEnum+len(im.Enums)-1) {
				return api.ErrType
			}
		}
	}
	if x.Regs < len(x.In)+len(x.Out) {
		return api.ErrArity
	}
	for _, v := range x.Init {
		if !between(v, api.MinInt, api.MaxInt) {
			return api.ErrRange
		}
	}
	for at := range x.Code {
		if e := refInstr(im, k, at); e != api.OK {
			return e
		}
	}
	return api.OK
}

func refCheck(im api.Image) api.Errno {
	if len(im.Enums) > api.MaxEnums || len(im.Routines) > api.MaxNodes {
		return api.ErrLimit
	}
	for _, tags := range im.Enums {
		if !between(tags, 1, api.MaxTags) {
			return api.ErrRange
		}
	}
	if len(im.Routines) == 0 {
		return api.ErrForm
	}
	for k := range im.Routines {
		if e := refRoutine(im, k); e != api.OK {
			return e
		}
	}
	return api.OK
}

// refWorst returns the greatest number of instructions from an instruction of a routine on, by all ways.
func refWorst(im api.Image, k, at int) int {
	code := im.Routines[k].Code
	if at == len(code) {
		return 0
	}
	switch i := code[at]; i.Op {
	case api.IJump:
		return 1 + refWorst(im, k, i.B)
	case api.IZero:
		return 1 + max(refWorst(im, k, at+1), refWorst(im, k, i.B))
	case api.ICall:
		return 1 + refWorst(im, i.A, 0) + refWorst(im, k, at+1)
	}
	return 1 + refWorst(im, k, at+1)
}

func refText(im api.Image) string {
	s := ""
	line := func(word string, numbers ...int) {
		s += word
		for _, v := range numbers {
			s += " " + strconv.Itoa(v)
		}
		s += "\n"
	}
	line("enums", im.Enums...)
	for _, x := range im.Routines {
		line("routine " + x.Name)
		line("in", x.In...)
		line("out", x.Out...)
		line("regs", x.Regs)
		line("init", x.Init...)
		for _, i := range x.Code {
			var l []int
			for _, f := range rows[i.Op].fields {
				l = append(l, field(i, f[0]))
			}
			line(rows[i.Op].word, l...)
		}
		line("end")
	}
	return s
}

// required has the forms of lines: those before the instructions of a routine in their order, and then that of an instruction or the end.
var required = readForms()

func readForms() []*regexp.Regexp {
	const number = `( (0|-?[1-9][0-9]*))`
	instruction := `(end`
	for _, r := range rows {
		instruction += "|" + r.word + number + "{" + strconv.Itoa(len(r.fields)) + "}"
	}
	var l []*regexp.Regexp
	for _, form := range []string{`enums` + number + `*`, `routine [^ ]+`, `in` + number + `*`, `out` + number + `*`, `regs` + number, `init` + number + `*`, instruction + `)`} {
		l = append(l, regexp.MustCompile(`\A(?s:`+form+`)\z`))
	}
	return l
}

// small reports whether the numbers in the line are in their range.
func small(line string) bool {
	for _, word := range strings.Split(line, " ")[1:] {
		if v, err := strconv.Atoi(word); err != nil || !between(v, -1<<31, 1<<31-1) {
			return false
		}
	}
	return true
}

// refWrong returns the number of the first line of a text that is wrong, or 0.
func refWrong(s string) (int, api.Errno) {
	next := 0
	for k, line := range strings.SplitAfter(s, "\n") {
		text, complete := strings.CutSuffix(line, "\n")
		if !complete && text == "" && next == 1 {
			return 0, api.OK
		}
		if !complete {
			return k + 1, api.ErrEnd
		}
		if !required[next].MatchString(text) || next != 1 && !small(text) {
			return k + 1, api.ErrForm
		}
		switch {
		case text == "end":
			next = 1
		case next < 6:
			next++
		}
	}
	return 0, api.OK // not reached: what follows the last line feed is no complete line
}
