package value

import (
	"math/bits"

	"klaxon/api"
)

// turned is v on the other side of 0; null and NaN lie on none.
func turned(v api.Value) api.Value {
	switch v.Kind {
	case api.ValueNum:
		return Num(-v.N)
	case api.ValuePlus, api.ValueMinus:
		return endless(-sign(v))
	}
	return v
}

func unsigned(v api.Value) api.Value {
	if sign(v) < 0 {
		return turned(v)
	}
	return v
}

func floor(v api.Value) api.Value {
	if !isNum(v) {
		return v
	}
	rest := v.N % thousand
	if rest < 0 {
		rest += thousand
	}
	return Num(v.N - rest)
}

// sum, product and quotient are of values that are neither null nor NaN.
func sum(a, b api.Value) api.Value {
	switch {
	case isNum(a) && isNum(b):
		return Num(a.N + b.N)
	case isNum(b):
		return a
	case isNum(a), a == b:
		return b
	}
	return NaN()
}

func product(a, b api.Value) api.Value {
	if isNum(a) && isNum(b) {
		return scaled(a.N, b.N, thousand)
	}
	return endless(sign(a) * sign(b))
}

func quotient(a, b api.Value) api.Value {
	switch {
	case isNum(a) && b == Num(0):
		return endless(sign(a))
	case isNum(a) && isNum(b):
		return scaled(a.N, thousand, b.N)
	case isNum(a):
		return Num(0)
	case isNum(b) && b.N < 0:
		return turned(a)
	case isNum(b):
		return a
	}
	return NaN()
}

// scaled is n times by, divided by over, rounded towards 0. The product may
// need more than 64 bits, so it is held in two words.
func scaled(n, by, over int64) api.Value {
	high, low := bits.Mul64(size(n), size(by))
	m := divided(high, low, size(over))
	if (n < 0) != (by < 0) != (over < 0) {
		return Num(-m)
	}
	return Num(m)
}

// divided is two words by one, or just beyond MaxNum where it is more: Num asks
// no more of it, and bits.Div64 would panic beyond one word.
func divided(high, low, over uint64) int64 {
	if high >= over {
		return api.MaxNum + 1
	}
	n, _ := bits.Div64(high, low, over)
	return int64(min(n, api.MaxNum+1))
}

func size(n int64) uint64 {
	if n < 0 {
		return uint64(-n)
	}
	return uint64(n)
}
