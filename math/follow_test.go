package math_test

import (
	"math/rand"
	"reflect"
	"strings"
	"testing"

	"klaxon/api"
	"klaxon/math"
	values "klaxon/value"
)

// comesBack asks that the tree of a tree's text is the same tree, if the text is
// not too long and does not nest too deep; and is whether it came back.
func comesBack(t *testing.T, x api.Expr) bool {
	t.Helper()
	text := math.Print(x)
	y, err, place := math.Parse(text)
	switch {
	case len(text) > api.MaxExpr:
		if err != api.ErrLong {
			t.Errorf("%s: error %d at %d", brief(text), err, place)
		}
		return false
	case err == api.ErrDeep && depth(x) > api.MaxNest:
		return false
	case err != api.OK || !reflect.DeepEqual(x, y):
		t.Errorf("%s: comes back as %s, error %d at %d", brief(text), show(y), err, place)
		return false
	}
	return true
}

// depth is how deep the text of x nests.
func depth(x api.Expr) int {
	most := 0
	for _, kid := range x.Kids {
		deep := depth(kid)
		if len(x.Kids) == 1 {
			deep++
		}
		if len(kid.Kids) == 2 && (len(x.Kids) == 2 || x.Name == "-" || x.Name == "!") {
			deep++
		}
		most = max(most, deep)
	}
	return most
}

// P11.5
func TestThereAndBack(t *testing.T) {
	r := rand.New(rand.NewSource(5))
	back := 0
	for range 20000 {
		x, err, _ := math.Parse(anyText(r, r.Intn(40)))
		if err == api.OK && comesBack(t, x) {
			back++
		}
		if t.Failed() {
			return
		}
	}
	if back < 15000 {
		t.Errorf("only %d came back", back)
	}
}

// P11.5: each operation in each other one, on both sides.
func TestThereAndBackOfEachTwo(t *testing.T) {
	var all []string
	for _, op := range opsOfTwo() {
		all = append(all, "($A"+op+"1.5)")
	}
	for _, name := range append(functions(), turning()...) {
		all = append(all, name+"($B)")
	}
	all = append(all, "0", "0.001", "999999999999.999", "1000000000000", "null", "nan", "inf", "$A", "$"+strings.Repeat("Z", api.MaxRef))
	for _, s := range all {
		if !comesBack(t, parsed(t, s)) {
			t.Errorf("%s does not come back", s)
		}
		for _, name := range append(functions(), turning()...) {
			if !comesBack(t, parsed(t, name+"("+s+")")) {
				t.Errorf("%s of %s does not come back", name, s)
			}
		}
		for _, u := range all {
			for _, op := range opsOfTwo() {
				if !comesBack(t, parsed(t, s+op+u)) {
					t.Errorf("%s %s %s does not come back", s, op, u)
				}
			}
		}
	}
}

// P11.5: the edge of what nests too deep, and of what is too long.
func TestThereAndBackAtTheEdges(t *testing.T) {
	for n := 1; n < 60; n++ {
		// The brackets that Print puts around the left operands nest n-1 deep.
		x := parsed(t, "1"+strings.Repeat("-1", n))
		if back := comesBack(t, x); back != (n-1 <= api.MaxNest) {
			t.Errorf("a chain of %d: %v", n, back)
		}
		if n <= api.MaxNest && !comesBack(t, parsed(t, strings.Repeat("-", n)+"$A")) {
			t.Errorf("%d signs do not come back", n)
		}
	}
	// Blanks and brackets make 118 bytes more of these 30 sums.
	long := "is_number($" + strings.Repeat("Z", api.MaxRef) + ")"
	for signs := range 20 {
		s := strings.Repeat(long+"+", 30) + strings.Repeat("-", signs) + long
		if back := comesBack(t, parsed(t, s)); back != (len(s)+118 <= api.MaxExpr) {
			t.Errorf("%d bytes, and 118: %v", len(s), back)
		}
	}
}

// saidValue is what value.Do comes to, of the values of A to D.
func saidValue(t *testing.T, x api.Expr, by map[string]api.Value) api.Value {
	switch x.Kind {
	case api.ExprNum:
		return x.Value
	case api.ExprRef:
		return by[x.Name]
	}
	var kids []api.Value
	for _, kid := range x.Kids {
		kids = append(kids, saidValue(t, kid, by))
	}
	v, err := values.Do(x.Name, kids...)
	if err != api.OK {
		t.Fatalf("Do %s of %v: error %d", x.Name, kids, err)
	}
	return v
}

// P11.6
func TestEvalOfOneValueEach(t *testing.T) {
	r := rand.New(rand.NewSource(6))
	for range 10000 {
		by := map[string]api.Value{}
		var env []api.Frame
		for _, ref := range []string{"A", "B", "C", "D"} {
			by[ref] = anyValue(r)
			env = append(env, frame(ref, api.Series{Value: by[ref]}))
		}
		x, err, _ := math.Parse(anyText(r, r.Intn(20)))
		if err != api.OK {
			continue
		}
		want := saidValue(t, x, by)
		got, err := math.Eval(x, env...)
		if err != api.OK || !same(got, []api.Series{{Value: want}}) {
			t.Fatalf("%s of %v: %v, error %d, want %v", math.Print(x), by, got, err, want)
		}
	}
}

// P11.6: each operation of each two values.
func TestEvalOfEachOperation(t *testing.T) {
	all := []api.Value{num(0), num(1), num(1000), num(-1500), num(2000), num(maxNum), num(-maxNum), null, nan, plus, minus}
	for _, v := range all {
		a := frame("A", api.Series{Value: v})
		for _, op := range append(turning(), functions()...) {
			want, _ := values.Do(op, v)
			evals(t, op+"($A)", []api.Series{{Value: want}}, a)
		}
		for _, w := range all {
			b := frame("B", api.Series{Value: w})
			for _, op := range opsOfTwo() {
				want, _ := values.Do(op, v, w)
				evals(t, "$A"+op+"$B", []api.Series{{Value: want}}, a, b)
				evals(t, "$A"+op+"$B", []api.Series{{Value: want}}, b, a)
			}
		}
	}
}

func anyValue(r *rand.Rand) api.Value {
	if r.Intn(5) == 0 {
		return []api.Value{null, nan, plus, minus}[r.Intn(4)]
	}
	n := r.Int63n(2*maxNum+1) - maxNum
	for range r.Intn(16) {
		n /= 10
	}
	return num(n)
}
