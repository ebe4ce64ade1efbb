package value_test

import (
	"math/big"
	"math/rand"
	"strings"
	"testing"

	"klaxon/api"
	"klaxon/value"
)

// unary has the operations with one operand, binary those with two.
func unary() []string {
	return []string{"-", "abs", "floor", "!", "is_null", "is_nan", "is_inf", "is_number"}
}

func binary() []string {
	return []string{"+", "-", "*", "/", "==", "!=", "<", "<=", ">", ">=", "&&", "||"}
}

// gridOperands stand at the columns of a grid, and at its rows.
func gridOperands() []api.Value {
	return []api.Value{null, nan, plus, minus, num(0), num(3000), num(-2000)}
}

// grids has what each operation makes: the first operand is the row, the second
// one the column.
var grids = []struct {
	op   string
	rows [7]string
}{
	{"+", [7]string{
		//         null NaN  +Inf -Inf 0    3    -2
		/* null */ "null null null null null null null",
		/* NaN  */ "null NaN  NaN  NaN  NaN  NaN  NaN",
		/* +Inf */ "null NaN  +Inf NaN  +Inf +Inf +Inf",
		/* -Inf */ "null NaN  NaN  -Inf -Inf -Inf -Inf",
		/* 0    */ "null NaN  +Inf -Inf 0    3    -2",
		/* 3    */ "null NaN  +Inf -Inf 3    6    1",
		/* -2   */ "null NaN  +Inf -Inf -2   1    -4",
	}},
	{"-", [7]string{
		//         null NaN  +Inf -Inf 0    3    -2
		/* null */ "null null null null null null null",
		/* NaN  */ "null NaN  NaN  NaN  NaN  NaN  NaN",
		/* +Inf */ "null NaN  NaN  +Inf +Inf +Inf +Inf",
		/* -Inf */ "null NaN  -Inf NaN  -Inf -Inf -Inf",
		/* 0    */ "null NaN  -Inf +Inf 0    -3   2",
		/* 3    */ "null NaN  -Inf +Inf 3    0    5",
		/* -2   */ "null NaN  -Inf +Inf -2   -5   0",
	}},
	{"*", [7]string{
		//         null NaN  +Inf -Inf 0    3    -2
		/* null */ "null null null null null null null",
		/* NaN  */ "null NaN  NaN  NaN  NaN  NaN  NaN",
		/* +Inf */ "null NaN  +Inf -Inf NaN  +Inf -Inf",
		/* -Inf */ "null NaN  -Inf +Inf NaN  -Inf +Inf",
		/* 0    */ "null NaN  NaN  NaN  0    0    0",
		/* 3    */ "null NaN  +Inf -Inf 0    9    -6",
		/* -2   */ "null NaN  -Inf +Inf 0    -6   4",
	}},
	{"/", [7]string{
		//         null NaN  +Inf -Inf 0    3    -2
		/* null */ "null null null null null null null",
		/* NaN  */ "null NaN  NaN  NaN  NaN  NaN  NaN",
		/* +Inf */ "null NaN  NaN  NaN  +Inf +Inf -Inf",
		/* -Inf */ "null NaN  NaN  NaN  -Inf -Inf +Inf",
		/* 0    */ "null NaN  0    0    NaN  0    0",
		/* 3    */ "null NaN  0    0    +Inf 1    -1.5",
		/* -2   */ "null NaN  0    0    -Inf -0.666 1",
	}},
	{"==", [7]string{
		//         null NaN  +Inf -Inf 0    3    -2
		/* null */ "null null null null null null null",
		/* NaN  */ "null 0    0    0    0    0    0",
		/* +Inf */ "null 0    1    0    0    0    0",
		/* -Inf */ "null 0    0    1    0    0    0",
		/* 0    */ "null 0    0    0    1    0    0",
		/* 3    */ "null 0    0    0    0    1    0",
		/* -2   */ "null 0    0    0    0    0    1",
	}},
	{"!=", [7]string{
		//         null NaN  +Inf -Inf 0    3    -2
		/* null */ "null null null null null null null",
		/* NaN  */ "null 1    1    1    1    1    1",
		/* +Inf */ "null 1    0    1    1    1    1",
		/* -Inf */ "null 1    1    0    1    1    1",
		/* 0    */ "null 1    1    1    0    1    1",
		/* 3    */ "null 1    1    1    1    0    1",
		/* -2   */ "null 1    1    1    1    1    0",
	}},
	{"<", [7]string{
		//         null NaN  +Inf -Inf 0    3    -2
		/* null */ "null null null null null null null",
		/* NaN  */ "null 0    0    0    0    0    0",
		/* +Inf */ "null 0    0    0    0    0    0",
		/* -Inf */ "null 0    1    0    1    1    1",
		/* 0    */ "null 0    1    0    0    1    0",
		/* 3    */ "null 0    1    0    0    0    0",
		/* -2   */ "null 0    1    0    1    1    0",
	}},
	{"<=", [7]string{
		//         null NaN  +Inf -Inf 0    3    -2
		/* null */ "null null null null null null null",
		/* NaN  */ "null 0    0    0    0    0    0",
		/* +Inf */ "null 0    1    0    0    0    0",
		/* -Inf */ "null 0    1    1    1    1    1",
		/* 0    */ "null 0    1    0    1    1    0",
		/* 3    */ "null 0    1    0    0    1    0",
		/* -2   */ "null 0    1    0    1    1    1",
	}},
	{">", [7]string{
		//         null NaN  +Inf -Inf 0    3    -2
		/* null */ "null null null null null null null",
		/* NaN  */ "null 0    0    0    0    0    0",
		/* +Inf */ "null 0    0    1    1    1    1",
		/* -Inf */ "null 0    0    0    0    0    0",
		/* 0    */ "null 0    0    1    0    0    1",
		/* 3    */ "null 0    0    1    1    0    1",
		/* -2   */ "null 0    0    1    0    0    0",
	}},
	{">=", [7]string{
		//         null NaN  +Inf -Inf 0    3    -2
		/* null */ "null null null null null null null",
		/* NaN  */ "null 0    0    0    0    0    0",
		/* +Inf */ "null 0    1    1    1    1    1",
		/* -Inf */ "null 0    0    1    0    0    0",
		/* 0    */ "null 0    0    1    1    0    1",
		/* 3    */ "null 0    0    1    1    1    1",
		/* -2   */ "null 0    0    1    0    0    1",
	}},
	{"&&", [7]string{
		//         null NaN  +Inf -Inf 0    3    -2
		/* null */ "null null null null null null null",
		/* NaN  */ "null 1    1    1    0    1    1",
		/* +Inf */ "null 1    1    1    0    1    1",
		/* -Inf */ "null 1    1    1    0    1    1",
		/* 0    */ "null 0    0    0    0    0    0",
		/* 3    */ "null 1    1    1    0    1    1",
		/* -2   */ "null 1    1    1    0    1    1",
	}},
	{"\x7c\x7c", [7]string{
		//         null NaN  +Inf -Inf 0    3    -2
		/* null */ "null null null null null null null",
		/* NaN  */ "null 1    1    1    1    1    1",
		/* +Inf */ "null 1    1    1    1    1    1",
		/* -Inf */ "null 1    1    1    1    1    1",
		/* 0    */ "null 1    1    1    0    1    1",
		/* 3    */ "null 1    1    1    1    1    1",
		/* -2   */ "null 1    1    1    1    1    1",
	}},
}

// read is the value of a grid's word.
func read(t *testing.T, word string) api.Value {
	t.Helper()
	for _, c := range []struct {
		s string
		v api.Value
	}{{"null", null}, {"NaN", nan}, {"+Inf", plus}, {"-Inf", minus}} {
		if word == c.s {
			return c.v
		}
	}
	f, ok := new(big.Rat).SetString(word)
	if !ok {
		t.Fatalf("a grid's word: %s", word)
	}
	f.Mul(f, big.NewRat(1000, 1))
	return num(f.Num().Int64())
}

// P8.3: each operation with two operands, of all kinds of them on either side.
func TestGrids(t *testing.T) {
	if len(grids) != len(binary()) {
		t.Fatalf("%d grids", len(grids))
	}
	for _, g := range grids {
		for i, a := range gridOperands() {
			words := strings.Fields(g.rows[i])
			for j, b := range gridOperands() {
				isDone(t, read(t, words[j]), g.op, a, b)
			}
		}
	}
}

// P8.3: each operation with one operand, of all kinds of them.
func TestUnaryOperations(t *testing.T) {
	operands := []api.Value{null, nan, plus, minus, num(0), num(1), num(-1), num(1000), num(-1000), num(1999), num(-1001), num(maxNum), num(-maxNum)}
	for _, c := range []struct{ op, words string }{
		{"-", "        null NaN -Inf +Inf 0 -0.001 0.001 -1 1  -1.999 1.001 -1000000000000 1000000000000"},
		{"abs", "      null NaN +Inf +Inf 0 0.001  0.001 1  1  1.999  1.001 1000000000000  1000000000000"},
		{"floor", "    null NaN +Inf -Inf 0 0      -1    1  -1 1      -2    1000000000000  -1000000000000"},
		{"!", "        null 0   0    0    1 0      0     0  0  0      0     0              0"},
		{"is_null", "  1    0   0    0    0 0      0     0  0  0      0     0              0"},
		{"is_nan", "   0    1   0    0    0 0      0     0  0  0      0     0              0"},
		{"is_inf", "   0    0   1    1    0 0      0     0  0  0      0     0              0"},
		{"is_number", "0    0   0    0    1 1      1     1  1  1      1     1              1"},
	} {
		for i, word := range strings.Fields(c.words) {
			isDone(t, read(t, word), c.op, operands[i])
		}
	}
}

// P8.3: the document's examples.
func TestExamples(t *testing.T) {
	isDone(t, num(3500), "+", num(1500), num(2000))
	isDone(t, num(333), "/", num(1000), num(3000))
	isDone(t, minus, "/", num(-1000), num(0))
	isDone(t, nan, "/", num(0), num(0))
	isDone(t, null, ">", null, num(1000))
	isDone(t, num(1000), "!=", nan, nan)
}

// P8.3: null comes ahead of NaN, whatever its side.
func TestNullAheadOfNaN(t *testing.T) {
	for _, op := range binary() {
		isDone(t, null, op, null, nan)
		isDone(t, null, op, nan, null)
		for _, v := range edgeValues() {
			isDone(t, null, op, null, v)
			isDone(t, null, op, v, null)
		}
	}
}

// P8.3: Plus, Minus and NaN with each number.
func TestOthersWithEachNumber(t *testing.T) {
	for _, n := range edgeNumbers() {
		v := num(n)
		for _, op := range []string{"+", "-", "*", "/"} {
			isDone(t, nan, op, nan, v)
			isDone(t, nan, op, v, nan)
		}
		for _, op := range []string{"==", "!=", "<", "<=", ">", ">="} {
			isDone(t, truth(op == "!="), op, nan, v)
			isDone(t, truth(op == "!="), op, v, nan)
			isDone(t, truth(strings.Contains("!= < <=", op)), op, v, plus)
			isDone(t, truth(strings.Contains("!= > >=", op)), op, plus, v)
			isDone(t, truth(strings.Contains("!= > >=", op)), op, v, minus)
			isDone(t, truth(strings.Contains("!= < <=", op)), op, minus, v)
		}
		isDone(t, plus, "+", v, plus)
		isDone(t, minus, "+", minus, v)
		isDone(t, plus, "-", plus, v)
		isDone(t, minus, "-", v, plus)
		isDone(t, num(0), "/", v, plus)
		isDone(t, num(0), "/", v, minus)
		times, over := plus, plus
		switch {
		case n == 0:
			times = nan
		case n < 0:
			times, over = minus, minus
		}
		isDone(t, times, "*", plus, v)
		isDone(t, times, "*", v, plus)
		isDone(t, over, "/", plus, v)
		isDone(t, times, "/", v, num(0))
	}
}

// P8.3: the first error is told, and nothing beside it.
func TestDoRefuses(t *testing.T) {
	one, bad := num(1000), api.Value{Kind: 9}
	for _, op := range append(unary(), binary()...) {
		for _, l := range [][]api.Value{nil, {}, {one, one, one}, {null, nan, plus}, edgeValues()} {
			isRefused(t, api.ErrArg, op, l...)
		}
	}
	for _, op := range unary()[1:] {
		isRefused(t, api.ErrArg, op, one, one)
		isRefused(t, api.ErrArg, op, null, nan)
	}
	for _, op := range binary() {
		if op != "-" {
			isRefused(t, api.ErrArg, op, one)
			isRefused(t, api.ErrArg, op, null)
		}
	}
	for _, op := range []string{
		"", "x", " ", "+ ", " +", "++", "--", "**", "%", "^", "=", "===", "=!", "<>", "=<", "&", "&&&", "\x7c", "\x7c\x7c\x7c", "|&", "!!", "~",
		"Abs", "ABS", "abs ", "floor\x00", "ceil", "round", "neg", "min", "is_true", "is_Null", "is_null()", "is_num", "isnan", "\xff", "\u2212", "\u00d7", "null", "1",
	} {
		for _, l := range [][]api.Value{nil, {one}, {one, one}, {one, one, one}, {null}, {null, null}} {
			isRefused(t, api.ErrArg, op, l...)
		}
	}
	for _, op := range append(append(unary(), binary()...), "", "x") {
		for _, l := range [][]api.Value{{bad}, {bad, one}, {one, bad}, {null, bad}, {bad, nan}, {bad, bad}, {bad, one, one}, {one, one, bad}, {one, one, one, bad}} {
			isRefused(t, api.ErrValue, op, l...)
		}
	}
	for _, v := range noValues() {
		isRefused(t, api.ErrValue, "+", v, one)
		isRefused(t, api.ErrValue, "+", one, v)
		isRefused(t, api.ErrValue, "is_null", v)
		isRefused(t, api.ErrValue, "x", v)
	}
}

// isRefused asks for an error, and for the zero Value beside it.
func isRefused(t *testing.T, want api.Errno, op string, l ...api.Value) {
	t.Helper()
	if v, err := value.Do(op, l...); v != (api.Value{}) || err != want {
		t.Errorf("Do(%q, %v): %v, error %d, want %d", op, l, v, err, want)
	}
}

// P8.3: what is a truth by an operation is true by True, of values of all kinds.
func TestTruths(t *testing.T) {
	r := rand.New(rand.NewSource(2))
	for range 20000 {
		a, b := anyValue(r), anyValue(r)
		if a == null || b == null {
			continue
		}
		isDone(t, truth(value.True(a) && value.True(b)), "&&", a, b)
		isDone(t, truth(value.True(a) || value.True(b)), "||", a, b)
		isDone(t, truth(!value.True(a)), "!", a)
	}
}
