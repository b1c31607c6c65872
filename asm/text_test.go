package asm

import (
	"math/rand"
	"reflect"
	"slices"
	"strings"
	"testing"

	"synchrony/api"
	"synchrony/clone"
)

// allText is the text of all.
const allText = `enums 1 16 3
routine one
in 1 2
out 4
regs 4
init 0 7
read 3 1
apply 2 0 1 5
write 0 2
unary 2 3 2
end
routine none
in
out
regs 0
init
end
routine Main_3
in 2 3
out 2
regs 6
init -32768 32767 -1
load 5 -32768
move 2 0
zero 5 4
jump 9
call 0 1 4 5
reset 0 0
reset 1 3
call 1 3 6 6
unary 0 0 1
apply 0 5 4 16
end
`

// TestText is P26.4.
func TestText(t *testing.T) {
	for _, x := range []struct {
		im   api.Image
		want string
	}{
		{all(), allText},
		{api.Image{Routines: []api.Routine{{Name: "f"}}}, "enums\nroutine f\nin\nout\nregs 0\ninit\nend\n"},
		{api.Image{Enums: []int{2}, Routines: []api.Routine{{Name: "f"}, {Name: "f", Regs: 1}}}, "enums 2\nroutine f\nin\nout\nregs 0\ninit\nend\nroutine f\nin\nout\nregs 1\ninit\nend\n"},
	} {
		before := clone.Image(x.im)
		if s, e := Text(x.im); s != x.want || e != api.OK {
			t.Errorf("the text of %v is\n%s, want\n%s; the error is %d", x.im, s, x.want, int(e))
		}
		if !Same(x.im, before) {
			t.Errorf("the argument has changed")
		}
		expectParse(t, x.want, x.im)
	}
	for _, x := range []struct {
		im api.Image
		e  api.Errno
	}{
		{api.Image{}, api.ErrForm},
		{api.Image{Enums: []int{17}}, api.ErrRange},
		{api.Image{Routines: []api.Routine{{Name: "f g"}}}, api.ErrName},
		{api.Image{Routines: []api.Routine{{Name: "f", In: []int{5}}}}, api.ErrType},
		{code(instr(0)), api.ErrForm},
	} {
		if s, e := Text(x.im); s != "" || e != x.e {
			t.Errorf("%v: Text returns %q and %d, want the error %d", x.im, s, int(e), int(x.e))
		}
	}
}

func expectParse(t *testing.T, s string, want api.Image) {
	t.Helper()
	im, n, e := Parse(s)
	if e != api.OK || n != 0 || !Same(im, want) {
		t.Errorf("%.200q is read as %v, want %v; the line is %d, the error %d", s, im, want, n, int(e))
	}
	expectNewMemory(t, 0, im)
}

func expectWrong(t *testing.T, s string, line int, want api.Errno) {
	t.Helper()
	im, n, e := Parse(s)
	if e != want || n != line || !Same(im, api.Image{}) {
		t.Errorf("%.200q is read as %v, in line %d with the error %d; want line %d, error %d", s, im, n, int(e), line, int(want))
	}
}

// TestRound is P26.4, P26.5 and P26.7: the text of an image is read as the image, and this has the same text.
func TestRound(t *testing.T) {
	r := rand.New(rand.NewSource(5))
	for range 3000 {
		im := someImage(r)
		s, e := Text(im)
		if want := refText(im); s != want || e != api.OK {
			t.Fatalf("the text of %v is\n%s, want\n%s; the error is %d", im, s, want, int(e))
		}
		expectParse(t, s, im)
		wrong := spoiled(r, im)
		if s, e := Text(wrong); e != Check(wrong) || (e == api.OK) != (s != "") {
			t.Fatalf("the text of %v is %q; the error is %d", wrong, s, int(e))
		}
	}
}

// TestParseLines is P26.5: the line that is wrong.
func TestParseLines(t *testing.T) {
	lines := strings.SplitAfter(allText, "\n")
	with := func(k int, line string) string {
		l := slices.Clone(lines)
		l[k-1] = line
		return strings.Join(l, "")
	}
	for k, line := range lines[:len(lines)-1] {
		bare := strings.TrimSuffix(line, "\n")
		for _, wrong := range []string{"", " ", bare + " ", " " + bare, bare + "  1", "x" + bare, strings.ReplaceAll(bare, " ", "  ") + " ", "Enums", "enums 1x", "\x00"} {
			expectWrong(t, with(k+1, wrong+"\n"), k+1, api.ErrForm)
		}
		if !strings.HasPrefix(line, "routine") { // a name can be any word
			for _, wrong := range []string{"\r", "\t", " x", " 01", " -0", " +1", " 1.0", " 1_0", " 0x1", " -", " --1", " 2147483648", " -2147483649", " 99999999999999999999", " 1 ", " \u0661", " 1\u00a0"} {
				expectWrong(t, with(k+1, bare+wrong+"\n"), k+1, api.ErrForm)
			}
		}
		expectWrong(t, strings.Join(lines[:k], "")+bare, k+1, api.ErrEnd)
		expectWrong(t, strings.Join(lines[:k], "")+"x", k+1, api.ErrEnd)
		expectWrong(t, strings.Join(lines[:k], "")+" ", k+1, api.ErrEnd)
		if k > 1 && lines[k-1] != "end\n" {
			expectWrong(t, strings.Join(lines[:k], ""), k+1, api.ErrEnd)
		}
	}
	for _, line := range []string{"regs", "regs 1 2", "in", "init 1"} {
		expectWrong(t, with(5, line+"\n"), 5, api.ErrForm)
	}
	for _, line := range []string{
		"routine", "routine a", "init 3", "end 0", "end end", "jump", "jump 1 2", "jump 0 10", "unary 1 2", "unary 1 2 3 4", "load 1", "load 1 2 3", "move 1", "move 1 2 3", "read 1", "read 1 2 3", "write 1", "write 1 2 3",
		"apply 1 2 3", "apply 1 2 3 4 5", "zero 1", "zero 1 2 3", "call 1 2 3", "call 1 2 3 4 5", "reset 1", "reset 1 2 3", "call", "loads 1 2", "nothing", "Load 1 2",
	} {
		expectWrong(t, with(10, line+"\n"), 10, api.ErrForm)
	}
	for _, line := range []string{"routine", "routine a b", "in"} {
		expectWrong(t, with(12, line+"\n"), 12, api.ErrForm)
	}
	expectWrong(t, with(10, "enums\n"), 10, api.ErrForm)
	expectWrong(t, with(12, "end\n"), 12, api.ErrForm)
	expectWrong(t, with(12, "enums\n"), 12, api.ErrForm)
	expectWrong(t, allText+"\n", len(lines), api.ErrForm)
	expectWrong(t, allText+"x", len(lines), api.ErrEnd)
	expectWrong(t, with(5, "regs\n")+"x", 5, api.ErrForm)
	expectWrong(t, "", 1, api.ErrEnd)
	expectWrong(t, "\n", 1, api.ErrForm)
	expectWrong(t, "enums", 1, api.ErrEnd)
	expectWrong(t, "x", 1, api.ErrEnd)
	expectWrong(t, "enums 2\nroutine f\nin 1 2\not 1\nregs", 4, api.ErrForm)
	expectWrong(t, "enums\nroutine f\n", 3, api.ErrEnd)
}

// TestParseChecks is P26.5: a text whose lines are right has the error of Check, whatever its numbers are.
func TestParseChecks(t *testing.T) {
	const f = "routine f\nin\nout\nregs 0\ninit\n"
	for s, want := range map[string]api.Errno{
		"enums\n":                                                           api.ErrForm,
		"enums 0\n":                                                         api.ErrRange,
		"enums -2147483648 2147483647\n":                                    api.ErrRange,
		"enums 17\n" + f + "end\n":                                          api.ErrRange,
		"enums" + strings.Repeat(" 2", 25) + "\n":                           api.ErrLimit,
		"enums\n" + strings.Repeat(f+"end\n", 97):                           api.ErrLimit,
		"enums\nroutine \u00e4\nin\nout\nregs 0\ninit\nend\n":               api.ErrName,
		"enums\nroutine a\tb\nin\nout\nregs 0\ninit\nend\n":                 api.ErrName,
		"enums\nroutine a\r\nin\nout\nregs 0\ninit\nend\n":                  api.ErrName,
		"enums\nroutine f\nin 3\nout\nregs 1\ninit\nend\n":                  api.ErrType,
		"enums\nroutine f\nin 1\nout\nregs 0\ninit\nend\n":                  api.ErrArity,
		"enums\nroutine f\nin\nout\nregs -2147483648\ninit\nend\n":          api.ErrArity,
		"enums\nroutine f\nin\nout\nregs 2147483647\ninit\nend\n":           api.ErrLimit,
		"enums\nroutine f\nin\nout\nregs 0\ninit 32768 -2147483648\nend\n":  api.ErrRange,
		"enums\n" + f + "load 0 0\nend\n":                                   api.ErrRange,
		"enums\n" + f + "jump 0\nend\n":                                     api.ErrForm,
		"enums\n" + f + "unary 0 0 2147483647\nend\n":                       api.ErrForm,
		"enums\n" + f + "jump 1\nend\n":                                     api.OK,
		"enums\n" + strings.Repeat(f+"end\n", 96):                           api.OK,
		"enums\nroutine routine\nin\nout\nregs 0\ninit\nend\n":              api.OK,
		"enums\nroutine end\nin\nout\nregs 32768\ninit -32768 32767\nend\n": api.OK,
	} {
		im, n, e := Parse(s)
		if e != want || n != 0 || want != api.OK && !Same(im, api.Image{}) {
			t.Errorf("%.100q is read as %v; the line is %d, the error %d, want %d", s, im, n, int(e), int(want))
		}
		if again, _ := Text(im); want == api.OK && again != s {
			t.Errorf("%q is read as %q", s, again)
		}
	}
}

// spoiledText changes a text somewhere.
func spoiledText(r *rand.Rand, s string) string {
	for range pick(r, 1, 1, 1, 2) {
		from := r.Intn(len(s) + 1)
		to := min(from+r.Intn(3), len(s))
		s = s[:from] + pick(r, "", "", " ", "\n", "0", "-", "1", "x", "end\n", "\nend", "jump 3\n", "routine f\n", "in\n", "\r\n") + s[to:]
		if r.Intn(6) == 0 {
			lines := strings.SplitAfter(s, "\n")
			i, k := r.Intn(len(lines)), r.Intn(len(lines))
			lines[i], lines[k] = lines[k], lines[i]
			s = strings.Join(lines, "")
		}
		if r.Intn(8) == 0 {
			s = s[:r.Intn(len(s)+1)]
		}
	}
	return s
}

// TestParseAny is P26.5 and P26.7 for texts in which anything can be wrong.
func TestParseAny(t *testing.T) {
	r := rand.New(rand.NewSource(6))
	errors := map[api.Errno]int{}
	for range 20000 {
		im := someImage(r)
		s := spoiledText(r, refText(im))
		line, want := refWrong(s)
		im, n, e := Parse(s)
		switch {
		case n != line || want != api.OK && e != want:
			t.Fatalf("%q is read as %v, in line %d with the error %d, want line %d and error %d", s, im, n, int(e), line, int(want))
		case e != api.OK && !Same(im, api.Image{}):
			t.Fatalf("%q is read as %v with the error %d", s, im, int(e))
		case e == api.OK && refText(im) != s:
			t.Fatalf("%q is read as %v, whose text is %q", s, im, refText(im))
		case e == api.OK && refCheck(im) != api.OK:
			t.Fatalf("%q is read as %v", s, im)
		}
		errors[e]++
	}
	for _, e := range []api.Errno{api.OK, api.ErrEnd, api.ErrForm, api.ErrRange} {
		if errors[e] < 100 {
			t.Errorf("the errors are %v", errors)
		}
	}
}

// largeText is the text of an image that has a number of bytes.
func largeText(size int) string {
	const f, end, load = "\nin\nout\nregs 1\ninit\n", "end\n", "load 0 5\n"
	b := []byte("enums\n")
	for room := size - len(b); room > 0; room = size - len(b) {
		name := "routine f"
		count := min((room-len(name+f+end))/len(load), api.MaxCode)
		if rest := room - len(name+f+end) - count*len(load); rest < len(load) {
			name += strings.Repeat("f", rest)
		}
		b = append(b, name+f+strings.Repeat(load, count)+end...)
	}
	return string(b)
}

// TestParseLimit is P26.5: the greatest length of a text.
func TestParseLimit(t *testing.T) {
	s := largeText(1 << 22)
	im, n, e := Parse(s)
	if len(s) != 1<<22 || n != 0 || e != api.OK {
		t.Fatalf("a text of %d bytes is wrong in line %d; the error is %d", len(s), n, int(e))
	}
	if again, e := Text(im); again != s || e != api.OK {
		t.Errorf("a large text is read wrongly; the error is %d", int(e))
	}
	s = largeText(1<<22 + 1)
	expectWrong(t, s, 0, api.ErrLimit)
	expectWrong(t, "x"+s, 0, api.ErrLimit)
	expectWrong(t, "x"+s[:1<<22-1], 1, api.ErrForm)
	expectWrong(t, strings.Repeat(" ", 1<<22), 1, api.ErrEnd)
	expectWrong(t, "enums"+strings.Repeat(" 1", 1<<21-3)+"\n", 0, api.ErrLimit)
	expectWrong(t, strings.Repeat("9", 1<<22-1)+"\n", 1, api.ErrForm)
	if im, e := Text(im); e != api.OK || len(im) != 1<<22 {
		t.Errorf("the text has %d bytes", len(im))
	}
}

// TestTextLarge is P26.4: the text of an image can be longer than one that is read.
func TestTextLarge(t *testing.T) {
	im, _, _ := Parse(largeText(1 << 22))
	im.Routines = slices.Concat(im.Routines, im.Routines)
	s, e := Text(im)
	if e != api.OK || len(s) != 2*(1<<22-len("enums\n"))+len("enums\n") {
		t.Errorf("the text has %d bytes; the error is %d", len(s), int(e))
	}
	expectWrong(t, s, 0, api.ErrLimit)
}

// TestSame is P26.6: each number, name and length counts.
func TestSame(t *testing.T) {
	im := all()
	if !Same(im, all()) || !Same(api.Image{}, api.Image{}) || Same(im, api.Image{}) {
		t.Errorf("Same of equal images is wrong")
	}
	for k := range places(reflect.ValueOf(im)) {
		other := clone.Image(im)
		switch v := places(reflect.ValueOf(&other).Elem())[k]; v.Kind() {
		case reflect.Int:
			v.SetInt(v.Int() + 1)
		case reflect.String:
			v.SetString(v.String() + "x")
		case reflect.Slice:
			v.Set(reflect.Append(v, reflect.New(v.Type().Elem()).Elem()))
		}
		if Same(im, other) || Same(other, im) {
			t.Errorf("Same of %v and %v is true", im, other)
		}
	}
	empty := api.Image{Enums: []int{}, Routines: []api.Routine{{In: []int{}, Out: []int{}, Init: []int{}, Code: []api.Instr{}}}}
	if !Same(empty, api.Image{Routines: make([]api.Routine, 1)}) || !Same(api.Image{Routines: []api.Routine{}}, api.Image{}) {
		t.Errorf("empty lists are not the same as none")
	}
}
