package value_test

import (
	"math"
	"math/rand"
	"testing"

	"klaxon/api"
	"klaxon/value"
)

const maxNum = int64(api.MaxNum)

// num is a number, made without Num.
func num(n int64) api.Value { return api.Value{Kind: api.ValueNum, N: n} }

// The other values, made without the package.
var (
	null  = api.Value{Kind: api.ValueNull}
	nan   = api.Value{Kind: api.ValueNaN}
	plus  = api.Value{Kind: api.ValuePlus}
	minus = api.Value{Kind: api.ValueMinus}
)

// do is what an operation makes, of operands that it must take.
func do(t *testing.T, op string, l ...api.Value) api.Value {
	t.Helper()
	v, err := value.Do(op, l...)
	if err != api.OK || value.Check(v) != api.OK {
		t.Fatalf("Do(%s, %v): %v, error %d", op, l, v, err)
	}
	return v
}

// isDone asks that an operation makes just this.
func isDone(t *testing.T, want api.Value, op string, l ...api.Value) {
	t.Helper()
	if v, err := value.Do(op, l...); v != want || err != api.OK {
		t.Fatalf("Do(%s, %v): %v, error %d, want %v", op, l, v, err, want)
	}
}

// truth is the number that stands for b.
func truth(b bool) api.Value {
	if b {
		return num(1000)
	}
	return num(0)
}

// edgeNumbers has numbers around all that an operation may trip over, on both
// sides of 0.
func edgeNumbers() []int64 {
	l := []int64{0}
	for _, n := range []int64{
		1, 2, 3, 9, 10, 99, 100, 499, 500, 501, 999, 1000, 1001, 1499, 1500, 1999, 2000, 2001, 31622, 31623,
		100001, 999999, 1000000, 1000001, 10000000001, 1 << 31, 1<<32 - 1, 1 << 32, 1<<32 + 1,
		999999999, 1000000000, 1000000001, 100000000000, 999999000001, 9999900001000, 999000000000000,
		maxNum/2 - 1, maxNum / 2, maxNum/2 + 1, maxNum - 1001, maxNum - 1000, maxNum - 999, maxNum - 1, maxNum,
	} {
		l = append(l, n, -n)
	}
	return l
}

// edgeValues has each of edgeNumbers, and all that is no number.
func edgeValues() []api.Value {
	l := []api.Value{null, nan, plus, minus}
	for _, n := range edgeNumbers() {
		l = append(l, num(n))
	}
	return l
}

// anyNumber is as often short as long.
func anyNumber(r *rand.Rand) int64 {
	n := r.Int63n(maxNum + 1)
	for range r.Intn(16) {
		n /= 10
	}
	switch r.Intn(4) {
	case 0:
		n = n / 1000 * 1000
	case 1:
		n = n / 10 * 10
	}
	if r.Intn(2) == 0 {
		return -n
	}
	return n
}

// anyValue is of each kind often enough to meet each other one.
func anyValue(r *rand.Rand) api.Value {
	switch r.Intn(12) {
	case 0:
		return null
	case 1:
		return nan
	case 2:
		return plus
	case 3:
		return minus
	}
	return num(anyNumber(r))
}

// noValues has what Check refuses.
func noValues() []api.Value {
	l := []api.Value{
		{}, {N: 1}, {Kind: 6}, {Kind: 7}, {Kind: -1}, {Kind: -api.ValuePlus}, {Kind: 256 + api.ValueNum}, {Kind: 1<<32 + api.ValueNum},
		{Kind: math.MaxInt}, {Kind: math.MinInt},
		num(maxNum + 1), num(-maxNum - 1), num(2 * maxNum), num(-2 * maxNum), num(math.MaxInt64), num(math.MinInt64),
	}
	for kind := api.ValueNull; kind <= api.ValueMinus; kind++ {
		for _, n := range []int64{1, -1, 1000, maxNum, -maxNum, 1 << 32, math.MaxInt64, math.MinInt64} {
			l = append(l, api.Value{Kind: kind, N: n})
		}
	}
	return l
}
