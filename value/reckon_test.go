package value_test

import (
	"math/big"
	"math/rand"
	"testing"

	"klaxon/api"
)

// bounded is P8.1 of a number without a bound.
func bounded(n *big.Int) api.Value {
	switch most := big.NewInt(maxNum); {
	case n.CmpAbs(most) <= 0:
		return num(n.Int64())
	case n.Sign() > 0:
		return plus
	}
	return minus
}

// reckoned is what P8.3 says of two numbers, reckoned without a bound.
func reckoned(op string, a, b int64) api.Value {
	x, y, z := big.NewInt(a), big.NewInt(b), new(big.Int)
	switch op {
	case "+":
		return bounded(z.Add(x, y))
	case "-":
		return bounded(z.Sub(x, y))
	case "*":
		return bounded(z.Quo(z.Mul(x, y), big.NewInt(1000)))
	}
	switch {
	case b != 0:
		return bounded(z.Quo(z.Mul(x, big.NewInt(1000)), y))
	case a > 0:
		return plus
	case a < 0:
		return minus
	}
	return nan
}

// P8.3: numbers whose products and quotients lie at an edge.
func TestNumbersWrittenOut(t *testing.T) {
	for _, c := range []struct {
		op   string
		a, b int64
		want api.Value
	}{
		{"+", maxNum, 0, num(maxNum)},
		{"+", maxNum - 1, 1, num(maxNum)},
		{"+", maxNum, 1, plus},
		{"+", maxNum, maxNum, plus},
		{"+", maxNum, -maxNum, num(0)},
		{"+", -maxNum, -1, minus},
		{"+", -maxNum, -maxNum, minus},
		{"-", maxNum, -1, plus},
		{"-", -maxNum, 1, minus},
		{"-", -maxNum, -maxNum, num(0)},
		{"-", 0, maxNum, num(-maxNum)},

		{"*", 1, 999, num(0)},
		{"*", 1, -999, num(0)},
		{"*", -1, -999, num(0)},
		{"*", 1, 1000, num(1)},
		{"*", -1, 1000, num(-1)},
		{"*", 1, 1999, num(1)},
		{"*", -1, 1999, num(-1)},
		{"*", -1500, -1500, num(2250)},
		{"*", maxNum, 1000, num(maxNum)},
		{"*", maxNum, 1001, plus},
		{"*", maxNum, -1001, minus},
		{"*", maxNum, 999, num(999000000000000)},
		{"*", 1000000000, 1000000000, num(maxNum)},
		{"*", 1000000000, -1000000000, num(-maxNum)},
		{"*", 1000001, 999999000001, num(maxNum)},   // 10^18 + 1
		{"*", -1000001, 999999000001, num(-maxNum)}, // the same below 0
		{"*", 100001, 9999900001000, plus},          // 10^18 + 1000
		{"*", 100001, -9999900001000, minus},        // the same below 0
		{"*", 1 << 32, 1 << 32, plus},               // 2^64: a low word of 0
		{"*", 1 << 32, -1 << 32, minus},
		{"*", 1 << 31, 1 << 32, plus},           // 2^63
		{"*", 100000000000, 100000000000, plus}, // by 1000 above 2^63, below 2^64
		{"*", 100000000000, -100000000000, minus},
		{"*", 1000000000, 18446744073709, plus}, // by 1000 just below 2^64
		{"*", 1000000000, 18446744073710, plus}, // by 1000 just above 2^64
		{"*", maxNum, maxNum, plus},             // 10^30
		{"*", -maxNum, maxNum, minus},
		{"*", -maxNum, -maxNum, plus},
		{"*", maxNum, 0, num(0)},
		{"*", 0, -maxNum, num(0)},
		{"*", -31622776, 31622777, num(-999999993568)}, // -999999993568952

		{"/", 1000, 3000, num(333)},
		{"/", -1000, 3000, num(-333)},
		{"/", 1000, -3000, num(-333)},
		{"/", -1000, -3000, num(333)},
		{"/", 2000, 3000, num(666)},
		{"/", -2000, 3000, num(-666)},
		{"/", 1, maxNum, num(0)},
		{"/", -1, maxNum, num(0)},
		{"/", maxNum, maxNum, num(1000)},
		{"/", maxNum, -maxNum, num(-1000)},
		{"/", maxNum - 1, maxNum, num(999)},
		{"/", maxNum, 1000, num(maxNum)},
		{"/", maxNum, -1000, num(-maxNum)},
		{"/", maxNum, 1001, num(999000999000999)},
		{"/", maxNum, 999, plus},
		{"/", 999000000000000, 999, num(maxNum)},
		{"/", 999000000000001, 999, plus},
		{"/", -999000000000001, 999, minus},
		{"/", maxNum, 1, plus},
		{"/", maxNum, -1, minus},
		{"/", -maxNum, -1, plus},
		{"/", 1000000000000, 1, num(maxNum)},
		{"/", 1000000000001, 1, plus},
		{"/", 1000000000001, -1, minus},
		{"/", 0, maxNum, num(0)},
		{"/", 0, -1, num(0)},
		{"/", 0, 0, nan},
		{"/", 1, 0, plus},
		{"/", -1, 0, minus},
		{"/", maxNum, 0, plus},
		{"/", -maxNum, 0, minus},
	} {
		isDone(t, c.want, c.op, num(c.a), num(c.b))
		if want := reckoned(c.op, c.a, c.b); want != c.want {
			t.Errorf("%d %s %d is written out as %v, reckoned as %v", c.a, c.op, c.b, c.want, want)
		}
	}
}

// areNumbers asks P8.3 of all that two numbers may be reckoned to.
func areNumbers(t *testing.T, a, b int64) {
	t.Helper()
	for _, op := range []string{"+", "-", "*", "/"} {
		isDone(t, reckoned(op, a, b), op, num(a), num(b))
	}
	for _, c := range []struct {
		op   string
		want bool
	}{{"==", a == b}, {"!=", a != b}, {"<", a < b}, {"<=", a <= b}, {">", a > b}, {">=", a >= b}} {
		isDone(t, truth(c.want), c.op, num(a), num(b))
	}
}

// P8.3
func TestEdgeNumbersWithEachOther(t *testing.T) {
	for _, a := range edgeNumbers() {
		for _, b := range edgeNumbers() {
			areNumbers(t, a, b)
		}
	}
}

// P8.3
func TestAnyNumbersWithEachOther(t *testing.T) {
	r := rand.New(rand.NewSource(3))
	for range 30000 {
		a, b := anyNumber(r), anyNumber(r)
		areNumbers(t, a, b)
		areNumbers(t, a, a)
	}
}

// P8.3: products and quotients on both sides of MaxNum.
func TestProductsAndQuotientsAtTheBound(t *testing.T) {
	r := rand.New(rand.NewSource(4))
	for range 5000 {
		a := 1001 + r.Int63n(1000000000)
		b := maxNum * 1000 / a
		for d := int64(-2); d <= 2; d++ {
			areNumbers(t, a, b+d)
			areNumbers(t, -a, b+d)
		}
		c := 1 + r.Int63n(999)
		for d := int64(-2); d <= 2; d++ {
			areNumbers(t, maxNum/1000*c+d, c)
			areNumbers(t, maxNum/1000*c+d, -c)
		}
	}
}

// P8.3: - abs floor, by what they are said to be.
func TestTurnedUnsignedFloor(t *testing.T) {
	r := rand.New(rand.NewSource(5))
	l := edgeNumbers()
	for range 5000 {
		l = append(l, anyNumber(r))
	}
	for n := int64(-5000); n <= 5000; n++ {
		l = append(l, n)
	}
	for _, n := range l {
		isDone(t, num(-n), "-", num(n))
		isDone(t, num(max(n, -n)), "abs", num(n))
		f := do(t, "floor", num(n))
		if f.Kind != api.ValueNum || f.N%1000 != 0 || f.N > n || f.N+1000 <= n {
			t.Errorf("floor of %d: %v", n, f)
		}
	}
}
