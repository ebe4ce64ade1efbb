package math_test

import (
	"math/rand"
	"reflect"
	"slices"
	"strings"
	"testing"

	"klaxon/api"
	"klaxon/math"
)

// prints asks that a tree has just this text.
func prints(t *testing.T, x api.Expr, want string) {
	t.Helper()
	if got := math.Print(x); got != want {
		t.Errorf("Print %s: %s, want %s", show(x), brief(got), brief(want))
	}
}

// P11.3
func TestPrint(t *testing.T) {
	for s, want := range map[string]string{
		"$A+2*$B>3":          "($A + (2 * $B)) > 3",
		"0":                  "0",
		"1.5":                "1.5",
		"0.001":              "0.001",
		"12.34":              "12.34",
		"1000000000000":      "1000000000000",
		"999999999999.999":   "999999999999.999",
		"null":               "null",
		"nan":                "nan",
		"inf":                "inf",
		"$A":                 "$A",
		" $Ab_9 ":            "$Ab_9",
		"((1))":              "1",
		"- 1":                "-1",
		"! $A":               "!$A",
		"- - 1":              "--1",
		"-(-(1))":            "--1",
		"!-!1":               "!-!1",
		"1--1":               "1 - -1",
		"-1-1":               "-1 - 1",
		"-(1-1)":             "-(1 - 1)",
		"!(1&&2)":            "!(1 && 2)",
		"-abs(1)":            "-abs(1)",
		"abs ( 1 )":          "abs(1)",
		"abs((1))":           "abs(1)",
		"abs(1+2)":           "abs(1 + 2)",
		"abs(-(1+2))":        "abs(-(1 + 2))",
		"abs(floor(1+2))":    "abs(floor(1 + 2))",
		"abs(1)+abs(2)":      "abs(1) + abs(2)",
		"1+2+3":              "(1 + 2) + 3",
		"1+(2+3)":            "1 + (2 + 3)",
		"1+2*3":              "1 + (2 * 3)",
		"1*2+3":              "(1 * 2) + 3",
		"(1<2)==(3<4)":       "(1 < 2) == (3 < 4)",
		"1&&2||3&&null":      "(1 && 2) || (3 && null)",
		"-(1+2)*!(3||4)":     "-(1 + 2) * !(3 || 4)",
		"is_inf(-inf)||!nan": "is_inf(-inf) || !nan",
	} {
		prints(t, parsed(t, s), want)
	}
}

// P11.3: each operation, around each other one.
func TestPrintOfEachOperation(t *testing.T) {
	two := func(op string) api.Expr { return call(op, ref("A"), value(num(1500))) }
	for _, f := range opsOfTwo() {
		prints(t, two(f), "$A "+f+" 1.5")
		for _, g := range opsOfTwo() {
			prints(t, call(f, two(g), two(g)), "($A "+g+" 1.5) "+f+" ($A "+g+" 1.5)")
			prints(t, call(f, two(g), ref("B")), "($A "+g+" 1.5) "+f+" $B")
			prints(t, call(f, ref("B"), two(g)), "$B "+f+" ($A "+g+" 1.5)")
		}
		for _, sign := range turning() {
			prints(t, call(sign, two(f)), sign+"($A "+f+" 1.5)")
			prints(t, call(f, call(sign, ref("A")), call(sign, value(null))), sign+"$A "+f+" "+sign+"null")
		}
		for _, name := range functions() {
			prints(t, call(name, two(f)), name+"($A "+f+" 1.5)")
			prints(t, call(f, call(name, value(nan)), call(name, value(plus))), name+"(nan) "+f+" "+name+"(inf)")
		}
	}
	for _, f := range slices.Concat(turning(), functions()) {
		for _, sign := range turning() {
			inner := math.Print(call(f, ref("A")))
			prints(t, call(sign, call(f, ref("A"))), sign+inner)
		}
		for _, name := range functions() {
			inner := math.Print(call(f, ref("A")))
			prints(t, call(name, call(f, ref("A"))), name+"("+inner+")")
		}
	}
}

// P11.3
func TestRefs(t *testing.T) {
	for s, want := range map[string][]string{
		"1":                                     nil,
		"null":                                  nil,
		"abs(1)+-2":                             nil,
		"$A":                                    {"A"},
		"$A+$A":                                 {"A"},
		"$B+$A":                                 {"A", "B"},
		"$C*($A-$B)":                            {"A", "B", "C"},
		"-$Z":                                   {"Z"},
		"!abs(-($A))":                           {"A"},
		"$B||$A&&$B<$A+$B*$A":                   {"A", "B"},
		"$AB+$A+$B+$Aa+$A1+$A_":                 {"A", "A1", "AB", "A_", "Aa", "B"},
		"abs($D)-is_nan($C)*$B/($A)==$E":        {"A", "B", "C", "D", "E"},
		strings.Repeat("$B-$A-", 150) + "$B+$C": {"A", "B", "C"},
	} {
		if got := math.Refs(parsed(t, s)); !slices.Equal(got, want) {
			t.Errorf("Refs of %s: %v, want %v", s, got, want)
		}
	}
}

// P11.3: what Print and Refs answer is new, and the tree stays as it was.
func TestPrintAndRefsLeaveTheTree(t *testing.T) {
	r := rand.New(rand.NewSource(3))
	for range 300 {
		x := parsed(t, anyText(r, r.Intn(12)))
		before := cloneTree(x)
		text, refs := math.Print(x), math.Refs(x)
		want := slices.Clone(refs)
		for i := range refs[:cap(refs)] {
			refs[:cap(refs)][i] = "other"
		}
		if !reflect.DeepEqual(x, before) || math.Print(x) != text || !slices.Equal(math.Refs(x), want) {
			t.Fatalf("%s has changed", text)
		}
	}
}

// P11.2: each answer of Parse is new, and no two lists in it share anything.
func TestParseAnswersNewTrees(t *testing.T) {
	const s = "abs($A)+-1*(2<$B)||!$A"
	x, y := parsed(t, s), parsed(t, s)
	want := show(y)
	spoil(&x)
	if show(y) != want || show(parsed(t, s)) != want {
		t.Errorf("%s is %s by now", s, show(y))
	}
	var seen []*api.Expr
	var walk func(x api.Expr)
	walk = func(x api.Expr) {
		for i := range x.Kids[:cap(x.Kids)] {
			kid := &x.Kids[:cap(x.Kids)][i]
			if slices.Contains(seen, kid) {
				t.Fatal("two lists of one tree share a kid")
			}
			seen = append(seen, kid)
		}
		for _, kid := range x.Kids {
			walk(kid)
		}
	}
	walk(y)
}

// spoil changes all of a tree.
func spoil(x *api.Expr) {
	for i := range x.Kids {
		spoil(&x.Kids[i])
	}
	x.Kind, x.Name, x.Value = -1, "other", minus
}

// oddTrees has trees that Parse does not make: nothing is said of them, but that
// each call ends, and none panics.
func oddTrees() []api.Expr {
	one := value(num(1000))
	deep := one
	for range 1 << 16 {
		deep = call("-", deep)
	}
	wide := call("+")
	for range 1000 {
		wide.Kids = append(wide.Kids, one)
	}
	return []api.Expr{
		{}, {Kind: -1}, {Kind: 4}, {Kind: 1 << 40, Name: "A", Kids: []api.Expr{one}}, {Kind: api.ExprNum}, value(minus), value(num(-1500)), value(num(maxNum + 1)), value(api.Value{Kind: api.ValueNull, N: 1}),
		ref(""), ref("a"), ref("$A"), ref(strings.Repeat("A", 1000)), {Kind: api.ExprRef, Name: "A", Value: num(1), Kids: []api.Expr{one, ref("B")}},
		call(""), call("abs"), call("+"), call("-"), call("", one), call("", one, one), call("+", one), call("*", one), call("abs", one, one), call("!", one, one), call("-", one, one, one), call("none", one),
		call("none", one, ref("A")), call("(", one), call("$", ref("A")), call("+", api.Expr{}, api.Expr{}), call("abs", api.Expr{}), {Kind: api.ExprCall, Name: "abs", Value: num(5), Kids: []api.Expr{{}}}, deep, wide,
	}
}

// Rule 1: also of trees that Parse does not make each call ends.
func TestOddTrees(t *testing.T) {
	for _, x := range oddTrees() {
		math.Print(x)
		math.Refs(x)
		math.Eval(x)
		math.Eval(x, api.Frame{Ref: "A"}, api.Frame{}, api.Frame{Ref: "$A", Series: make([]api.Series, 3)})
	}
}
