package value_test

import (
	"math/rand"
	"testing"

	"klaxon/api"
)

// laws asks P8.6 of two values.
func laws(t *testing.T, a, b api.Value) {
	t.Helper()
	for _, op := range []string{"+", "*"} {
		if x, y := do(t, op, a, b), do(t, op, b, a); x != y {
			t.Errorf("%v %s %v: %v, the other way round %v", a, op, b, x, y)
		}
	}
	x, y := do(t, "-", a, b), do(t, "-", do(t, "-", b, a))
	if x != y {
		t.Errorf("%v - %v: %v, turned round twice %v", a, b, x, y)
	}
	if z := do(t, "+", a, do(t, "-", b)); x != z {
		t.Errorf("%v - %v: %v, but %v is the sum", a, b, x, z)
	}
	isOneOfThree(t, a, b)
}

// isOneOfThree asks for one of <, ==, >, unless there is a null or a NaN.
func isOneOfThree(t *testing.T, a, b api.Value) {
	t.Helper()
	count, want := 0, 1
	for _, op := range []string{"<", "==", ">"} {
		if do(t, op, a, b) == num(1000) {
			count++
		}
	}
	if a == null || a == nan || b == null || b == nan {
		want = 0
	}
	if count != want {
		t.Errorf("%v and %v: %d of <, ==, > are true", a, b, count)
	}
	if want == 1 && (do(t, "==", a, b) == num(1000)) != (a == b) {
		t.Errorf("%v == %v", a, b)
	}
}

// P8.6
func TestLawsOfEdgeValues(t *testing.T) {
	for _, a := range edgeValues() {
		for _, b := range edgeValues() {
			laws(t, a, b)
		}
	}
}

// P8.6
func TestLawsOfAnyValues(t *testing.T) {
	r := rand.New(rand.NewSource(7))
	for range 30000 {
		a := anyValue(r)
		laws(t, a, anyValue(r))
		laws(t, a, a)
		laws(t, a, do(t, "-", a))
	}
}
