package value

import (
	"math"
	"slices"

	"synchrony/api"
	"synchrony/word"
)

// enumsOf has enumerations of different sizes: also without tags, with more than a program may have, with equal tags, and with names and tags that are no identifiers.
func enumsOf() []api.Enum {
	many := api.Enum{Name: "Many"}
	for i := range 20 {
		many.Tags = append(many.Tags, "T"+string(rune('a'+i)))
	}
	return []api.Enum{
		{Name: "Light", Tags: []string{"Red", "Green", "Amber"}},
		{Name: "None"},
		many,
		{Name: "Twice", Tags: []string{"A", "B", "A", "", "C", "", "B"}},
		{Name: "bool", Tags: []string{"true", "false"}},
		{Name: "int", Tags: []string{"1", "0"}},
		{Name: "Light", Tags: []string{"On"}},
		{Name: "", Tags: []string{"é"}},
	}
}

func copyOf(enums []api.Enum) []api.Enum {
	l := slices.Clone(enums)
	for i := range l {
		l[i].Tags = slices.Clone(l[i].Tags)
	}
	return l
}

func equalEnums(a, b []api.Enum) bool {
	return slices.EqualFunc(a, b, func(x, y api.Enum) bool { return x.Name == y.Name && slices.Equal(x.Tags, y.Tags) })
}

// wrongTypes has types that are not valid for n enumerations.
func wrongTypes(n int) []int {
	return []int{math.MinInt, math.MinInt + 1, math.MinInt + 2, math.MinInt + 3, -65536, -3, -2, -1, 0, api.TEnum + n, api.TEnum + n + 1, 1 << 40, math.MaxInt - 1, math.MaxInt}
}

// samples has numbers at and around the ends of the types.
func samples() []int {
	return []int{
		math.MinInt, math.MinInt + 1, -1 << 40, -65537, -65536, -65535, -32770, -32769, -32768, -32767, -300, -181, -16, -7, -3, -2,
		-1, 0, 1, 2, 3, 5, 6, 7, 10, 15, 16, 17, 19, 20, 181, 182, 256, 300, 32766, 32767, 32768, 32769, 65535, 65536, 65537, 1 << 40,
		math.MaxInt - 1, math.MaxInt,
	}
}

// an operator as the chapter describes it: its operands, their type and that of the result ("" for the operands of equalities), and what it returns.
type described struct {
	op       int
	operands int
	takes    string
	gives    int
	result   func(a, b int) int
}

func bit(b bool) int { return map[bool]int{true: 1}[b] }

// operators has all operators; those with one operand ignore the second one.
func operators() []described {
	return []described{
		{api.OpNot, 1, "bool", api.TBool, func(a, _ int) int { return bit(a == 0) }},
		{api.OpNeg, 1, "int", api.TInt, func(a, _ int) int { return word.Neg(a) }},
		{api.OpAnd, 2, "bool", api.TBool, func(a, b int) int { return bit(a == 1 && b == 1) }},
		{api.OpOr, 2, "bool", api.TBool, func(a, b int) int { return bit(a == 1 || b == 1) }},
		{api.OpXor, 2, "bool", api.TBool, func(a, b int) int { return bit(a+b == 1) }},
		{api.OpAdd, 2, "int", api.TInt, word.Add},
		{api.OpSub, 2, "int", api.TInt, word.Sub},
		{api.OpMul, 2, "int", api.TInt, word.Mul},
		{api.OpDiv, 2, "int", api.TInt, word.Div},
		{api.OpMod, 2, "int", api.TInt, word.Mod},
		{api.OpEq, 2, "", api.TBool, func(a, b int) int { return bit(a == b) }},
		{api.OpNe, 2, "", api.TBool, func(a, b int) int { return bit(a != b) }},
		{api.OpLt, 2, "int", api.TBool, func(a, b int) int { return bit(a < b) }},
		{api.OpLe, 2, "int", api.TBool, func(a, b int) int { return bit(a < b || a == b) }},
		{api.OpGt, 2, "int", api.TBool, func(a, b int) int { return bit(b < a) }},
		{api.OpGe, 2, "int", api.TBool, func(a, b int) int { return bit(b < a || a == b) }},
	}
}

// noOperators has numbers that are no operators.
func noOperators() []int {
	return []int{math.MinInt, -65535, -1, 0, api.OpGe + 1, api.OpGe + 2, 100, 65537, math.MaxInt}
}

// lists returns all lists of n of the numbers.
func lists(numbers []int, n int) [][]int {
	l := [][]int{nil}
	for range n {
		var longer [][]int
		for _, x := range l {
			for _, v := range numbers {
				longer = append(longer, append(slices.Clone(x), v))
			}
		}
		l = longer
	}
	return l
}
