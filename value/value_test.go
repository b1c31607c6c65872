package value

import (
	"strconv"
	"strings"
	"testing"

	"synchrony/api"
)

// TestSize is P5.1.
func TestSize(t *testing.T) {
	enums := enumsOf()
	if n := Size(enums, api.TBool); n != 2 {
		t.Errorf("bool: %d", n)
	}
	if n := Size(enums, api.TInt); n != 65536 {
		t.Errorf("int: %d", n)
	}
	for i, want := range []int{3, 0, 20, 7, 2, 2, 1, 1} {
		if n := Size(enums, api.TEnum+i); n != want {
			t.Errorf("enumeration %d: %d, want %d", i, n, want)
		}
	}
	for _, k := range []int{0, 1, len(enums)} {
		for _, wrong := range wrongTypes(k) {
			if n := Size(enums[:k], wrong); n != 0 {
				t.Errorf("type %d of %d enumerations: %d", wrong, k, n)
			}
		}
	}
	if Size(nil, api.TBool) != 2 || Size(nil, api.TInt) != 65536 || Size(nil, api.TEnum) != 0 {
		t.Error("without enumerations")
	}
}

// TestHas is P5.1: a type has Size values, and they are those from its least one on.
func TestHas(t *testing.T) {
	enums := enumsOf()
	least := map[int]int{api.TInt: -32768}
	for x := api.TBool; x < api.TEnum+len(enums); x++ {
		for _, v := range samples() {
			want := v >= least[x] && v < least[x]+Size(enums, x)
			if Has(enums, x, v) != want {
				t.Errorf("Has of the type %d and %d is %v", x, v, !want)
			}
		}
		n := 0
		for v := -70000; v <= 70000; v++ {
			if Has(enums, x, v) {
				n++
			}
		}
		if n != Size(enums, x) {
			t.Errorf("the type %d has %d values of %d", x, n, Size(enums, x))
		}
	}
	for _, wrong := range wrongTypes(len(enums)) {
		for _, v := range samples() {
			if Has(enums, wrong, v) {
				t.Errorf("Has of the type %d, which is not valid, and %d", wrong, v)
			}
		}
	}
}

// TestName is P5.2.
func TestName(t *testing.T) {
	enums := enumsOf()
	for i, want := range []string{"bool", "int", "Light", "None", "Many", "Twice", "bool", "int", "Light", ""} {
		if s, ok := Name(enums, api.TBool+i); s != want || !ok {
			t.Errorf("Name of the type %d = %q, %v, want %q", api.TBool+i, s, ok, want)
		}
	}
	for _, k := range []int{0, 1, len(enums)} {
		for _, wrong := range wrongTypes(k) {
			if s, ok := Name(enums[:k], wrong); s != "" || ok {
				t.Errorf("Name of the type %d of %d enumerations = %q, %v", wrong, k, s, ok)
			}
		}
	}
}

// TestType is P5.2.
func TestType(t *testing.T) {
	enums := enumsOf()
	for name, want := range map[string]int{
		"bool": api.TBool, "int": api.TInt, "Light": api.TEnum, "None": api.TEnum + 1, "Many": api.TEnum + 2, "Twice": api.TEnum + 3, "": api.TEnum + 7,
	} {
		if x, ok := Type(enums, name); x != want || !ok {
			t.Errorf("Type(%q) = %d, %v, want %d", name, x, ok, want)
		}
	}
	for _, name := range []string{"Bool", "INT", "light", "Ligh", "Lights", "Red", "true", "bool ", " int", "1", "integer"} {
		if x, ok := Type(enums, name); x != 0 || ok {
			t.Errorf("Type(%q) = %d, %v", name, x, ok)
		}
	}
	if x, ok := Type(nil, "int"); x != api.TInt || !ok {
		t.Errorf("Type of int without enumerations = %d, %v", x, ok)
	}
	for _, name := range []string{"", "Light"} {
		if x, ok := Type(nil, name); x != 0 || ok {
			t.Errorf("Type(%q) without enumerations = %d, %v", name, x, ok)
		}
	}
}

// expectText checks Text against P5.3.
func expectText(t *testing.T, enums []api.Enum, x, v int, want string, wantError api.Errno) {
	t.Helper()
	if s, e := Text(enums, x, v); s != want || e != wantError {
		t.Errorf("Text of the type %d and %d = %q, %d, want %q, %d", x, v, s, int(e), want, int(wantError))
	}
}

// expectParse checks Parse against P5.3.
func expectParse(t *testing.T, enums []api.Enum, x int, s string, want int, wantError api.Errno) {
	t.Helper()
	if v, e := Parse(enums, x, s); v != want || e != wantError {
		t.Errorf("Parse of the type %d and %.50q = %d, %d, want %d, %d", x, s, v, int(e), want, int(wantError))
	}
}

func TestTextOfBool(t *testing.T) {
	for v, s := range []string{"false", "true"} {
		expectText(t, nil, api.TBool, v, s, api.OK)
		expectText(t, enumsOf(), api.TBool, v, s, api.OK)
		expectParse(t, nil, api.TBool, s, v, api.OK)
		expectParse(t, enumsOf(), api.TBool, s, v, api.OK)
	}
	for _, s := range []string{"", "0", "1", "True", "FALSE", "true ", " true", "tru", "truee", "falsetrue", "Red"} {
		expectParse(t, enumsOf(), api.TBool, s, 0, api.ErrForm)
	}
}

func TestTextOfInt(t *testing.T) {
	for v := -32768; v <= 32767; v++ {
		s := strconv.Itoa(v)
		expectText(t, nil, api.TInt, v, s, api.OK)
		expectParse(t, nil, api.TInt, s, v, api.OK)
	}
	for _, s := range []string{
		"007", "00", "01", "-01", "-00", "+1", "+0", "-0", "--1", "32768", "-32769", "65536", "65535", "40000", "4294967297", "-4294967295",
		"9223372036854775807", "9223372036854775808", "18446744073709551617", "-18446744073709551615", strings.Repeat("9", 1000), strings.Repeat("0", 1000),
		"", "-", "+", " 1", "1 ", "1\n", "\t1", "1_0", "0x10", "0b1", "0o7", "1e3", "1.0", "1.", "true", "x", "١", "１", "1\x00", "−1",
	} {
		expectParse(t, nil, api.TInt, s, 0, api.ErrForm)
		expectParse(t, enumsOf(), api.TInt, s, 0, api.ErrForm)
	}
}

func TestTextOfEnumerations(t *testing.T) {
	enums := enumsOf()
	for i, enum := range enums {
		for v, s := range enum.Tags {
			expectText(t, enums, api.TEnum+i, v, s, api.OK)
		}
	}
	for v, s := range enums[2].Tags {
		expectParse(t, enums, api.TEnum+2, s, v, api.OK)
	}
	for s, v := range map[string]int{"A": 0, "B": 1, "": 3, "C": 4} {
		expectParse(t, enums, api.TEnum+3, s, v, api.OK)
	}
	expectParse(t, enums, api.TEnum+4, "true", 0, api.OK)
	expectParse(t, enums, api.TEnum+4, "false", 1, api.OK)
	expectParse(t, enums, api.TEnum+5, "1", 0, api.OK)
	expectParse(t, enums, api.TEnum+7, "é", 0, api.OK)
	for _, s := range []string{"", "red", "Red ", "Re", "Reds", "On", "Light", "0", "true"} {
		expectParse(t, enums, api.TEnum, s, 0, api.ErrForm)
		expectParse(t, enums, api.TEnum+1, s, 0, api.ErrForm)
	}
	expectParse(t, []api.Enum{{Tags: []string{"Red", "Red"}}}, api.TEnum, "Red", 0, api.OK)
}

// TestTextErrors is P5.3: what is no type comes before what is no value of it.
func TestTextErrors(t *testing.T) {
	enums := enumsOf()
	for x := api.TBool; x < api.TEnum+len(enums); x++ {
		for _, v := range samples() {
			if !Has(enums, x, v) {
				expectText(t, enums, x, v, "", api.ErrRange)
			}
		}
	}
	for _, k := range []int{0, 1, len(enums)} {
		for _, wrong := range wrongTypes(k) {
			for _, v := range samples() {
				expectText(t, enums[:k], wrong, v, "", api.ErrType)
			}
			for _, s := range []string{"", "true", "1", "Red", "007"} {
				expectParse(t, enums[:k], wrong, s, 0, api.ErrType)
			}
		}
	}
}

// TestParseOfText is P5.7.
func TestParseOfText(t *testing.T) {
	enums := enumsOf()
	for x := api.TBool; x < api.TEnum+len(enums); x++ {
		for v := -33000; v <= 33000; v++ {
			s, e := Text(enums, x, v)
			if e != api.OK {
				continue
			}
			again, e := Parse(enums, x, s)
			text, f := Text(enums, x, again)
			if e != api.OK || f != api.OK || text != s || again > v {
				t.Fatalf("the type %d: %d, %q, %d, %q", x, v, s, again, text)
			}
			if again != v && x != api.TEnum+3 {
				t.Fatalf("the type %d, whose values have different texts: %d, %q, %d", x, v, s, again)
			}
		}
	}
}

func TestEnumerationsStay(t *testing.T) {
	enums := enumsOf()
	before := copyOf(enums)
	for x := -1; x < 12; x++ {
		Size(enums, x)
		Has(enums, x, 1)
		Name(enums, x)
		Text(enums, x, 1)
		Parse(enums, x, "A")
	}
	Type(enums, "Light")
	if !equalEnums(enums, before) {
		t.Errorf("%v became %v", before, enums)
	}
}
