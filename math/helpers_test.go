package math_test

import (
	"fmt"
	"math/rand"
	"reflect"
	"slices"
	"strings"
	"testing"

	"klaxon/api"
	"klaxon/math"
)

const maxNum = int64(api.MaxNum)

// num is a number of thousandths, made without the layers below.
func num(n int64) api.Value { return api.Value{Kind: api.ValueNum, N: n} }

// The other values, made without the layers below.
var (
	null  = api.Value{Kind: api.ValueNull}
	nan   = api.Value{Kind: api.ValueNaN}
	plus  = api.Value{Kind: api.ValuePlus}
	minus = api.Value{Kind: api.ValueMinus}
)

// levels has the operations of two, the loosest first.
func levels() [][]string {
	return [][]string{{"||"}, {"&&"}, {"==", "!=", "<=", ">=", "<", ">"}, {"+", "-"}, {"*", "/"}}
}

const relLevel = 2

func levelOf(op string) int {
	return slices.IndexFunc(levels(), func(ops []string) bool { return slices.Contains(ops, op) })
}

func opsOfTwo() []string { return slices.Concat(levels()...) }

func turning() []string { return []string{"-", "!"} }

func functions() []string {
	return []string{"abs", "floor", "is_null", "is_nan", "is_inf", "is_number"}
}

// value is a tree of a value.
func value(v api.Value) api.Expr { return api.Expr{Kind: api.ExprNum, Value: v} }

// ref is a tree of a ref.
func ref(name string) api.Expr { return api.Expr{Kind: api.ExprRef, Name: name} }

// call is a tree of an operation.
func call(name string, kids ...api.Expr) api.Expr {
	return api.Expr{Kind: api.ExprCall, Name: name, Kids: kids}
}

// show is a tree as the document writes one: the operation, and its operands in
// brackets. What has more fields than its Kind has meaning for is shown as none.
func show(x api.Expr) string {
	switch {
	case x.Kind == api.ExprNum && x.Name == "" && x.Kids == nil:
		return showValue(x.Value)
	case x.Kind == api.ExprRef && x.Value == api.Value{} && x.Kids == nil:
		return "$" + x.Name
	case x.Kind == api.ExprCall && x.Value == api.Value{} && (len(x.Kids) == 1 || len(x.Kids) == 2):
		var kids []string
		for _, kid := range x.Kids {
			kids = append(kids, show(kid))
		}
		return x.Name + "(" + strings.Join(kids, ", ") + ")"
	}
	return fmt.Sprintf("<%d %q %v %d>", x.Kind, x.Name, x.Value, len(x.Kids))
}

func showValue(v api.Value) string {
	switch v {
	case null:
		return "null"
	case nan:
		return "nan"
	case plus:
		return "inf"
	}
	if v.Kind != api.ValueNum || v.N < 0 {
		return fmt.Sprintf("<value %v>", v)
	}
	if v.N%1000 == 0 {
		return fmt.Sprint(v.N / 1000)
	}
	return strings.TrimRight(fmt.Sprintf("%d.%03d", v.N/1000, v.N%1000), "0")
}

// brief keeps long texts out of what a test tells.
func brief(s string) string {
	if len(s) > 200 {
		return fmt.Sprintf("%q.. of %d bytes", s[:200], len(s))
	}
	return fmt.Sprintf("%q", s)
}

// parses asks that s has just this tree.
func parses(t *testing.T, s, want string) {
	t.Helper()
	x, err, place := math.Parse(s)
	if err != api.OK || place != 0 || show(x) != want {
		t.Errorf("Parse %s: %s, error %d at %d, want %s", brief(s), show(x), err, place, want)
	}
}

// refuses asks that s has no tree, but this error there.
func refuses(t *testing.T, s string, want api.Errno, at int) {
	t.Helper()
	x, err, place := math.Parse(s)
	if err != want || place != at || !reflect.DeepEqual(x, api.Expr{}) {
		t.Errorf("Parse %s: %s, error %d at %d, want %d at %d", brief(s), show(x), err, place, want, at)
	}
}

// parsed is the tree of a text that must have one.
func parsed(t *testing.T, s string) api.Expr {
	t.Helper()
	x, err, _ := math.Parse(s)
	if err != api.OK {
		t.Fatalf("Parse %s: error %d", brief(s), err)
	}
	return x
}

func cloneTree(x api.Expr) api.Expr {
	x.Kids = slices.Clone(x.Kids)
	for i := range x.Kids {
		x.Kids[i] = cloneTree(x.Kids[i])
	}
	return x
}

// anyText is an expression as somebody may write it, with brackets and blanks
// where they may be, and refs of A to D.
func anyText(r *rand.Rand, size int) string {
	if size <= 0 {
		return blanks(r) + []string{"0", "1", "2.5", "0.001", "10", "null", "nan", "inf", "$A", "$B", "$C", "$D"}[r.Intn(12)] + blanks(r)
	}
	switch r.Intn(8) {
	case 0:
		return blanks(r) + turning()[r.Intn(2)] + anyOperand(r, size-1)
	case 1:
		return blanks(r) + functions()[r.Intn(6)] + blanks(r) + "(" + anyText(r, size-1) + ")" + blanks(r)
	case 2:
		return blanks(r) + "(" + anyText(r, size-1) + ")" + blanks(r)
	}
	op := opsOfTwo()[r.Intn(12)]
	left := r.Intn(size)
	if levelOf(op) == relLevel {
		return anyOperand(r, left) + op + anyOperand(r, size-1-left)
	}
	return anySide(r, left) + op + anySide(r, size-1-left)
}

// anyOperand is an expression that stands in brackets, unless it is short.
func anyOperand(r *rand.Rand, size int) string {
	if size <= 0 {
		return anyText(r, 0)
	}
	return blanks(r) + "(" + anyText(r, size) + ")" + blanks(r)
}

// anySide has no comparison that another one may stand beside.
func anySide(r *rand.Rand, size int) string {
	if s := anyText(r, size); !strings.ContainsAny(s, "=<>") {
		return s
	}
	return anyOperand(r, size)
}

func blanks(r *rand.Rand) string {
	return strings.Repeat(" ", max(0, r.Intn(5)-2))
}
