package value

import (
	"cmp"
	"slices"

	"klaxon/api"
)

type one func(v api.Value) api.Value

type two func(a, b api.Value) api.Value

// Do is what the operation makes of its operands (P8.3).
func Do(op string, l ...api.Value) (api.Value, api.Errno) {
	if err := Check(l...); err != api.OK {
		return api.Value{}, err
	}
	switch len(l) {
	case 1:
		if f, there := ones()[op]; there {
			return f(l[0]), api.OK
		}
	case 2:
		if f, there := twos()[op]; there {
			return f(l[0], l[1]), api.OK
		}
	}
	return api.Value{}, api.ErrArg
}

// ones has the operations with one operand.
func ones() map[string]one {
	return map[string]one{
		"-":         turned,
		"abs":       unsigned,
		"floor":     floor,
		"!":         not,
		"is_null":   ofKind(api.ValueNull),
		"is_nan":    ofKind(api.ValueNaN),
		"is_inf":    ofKind(api.ValuePlus, api.ValueMinus),
		"is_number": ofKind(api.ValueNum),
	}
}

// twos has the operations with two operands.
func twos() map[string]two {
	return map[string]two{
		"+": reckoned(sum),
		"-": reckoned(func(a, b api.Value) api.Value { return sum(a, turned(b)) }),
		"*": reckoned(product),
		"/": reckoned(quotient),

		"==": compared(false, func(order int) bool { return order == 0 }),
		"!=": compared(true, func(order int) bool { return order != 0 }),
		"<":  compared(false, func(order int) bool { return order < 0 }),
		"<=": compared(false, func(order int) bool { return order <= 0 }),
		">":  compared(false, func(order int) bool { return order > 0 }),
		">=": compared(false, func(order int) bool { return order >= 0 }),

		"&&": unlessNull(func(a, b api.Value) api.Value { return Truth(True(a) && True(b)) }),
		"||": unlessNull(func(a, b api.Value) api.Value { return Truth(True(a) || True(b)) }),
	}
}

// ofKind asks whether a value is of one of these kinds.
func ofKind(kinds ...int) one {
	return func(v api.Value) api.Value { return Truth(slices.Contains(kinds, v.Kind)) }
}

// unlessNull leaves f what has no null in it.
func unlessNull(f two) two {
	return func(a, b api.Value) api.Value {
		if a.Kind == api.ValueNull || b.Kind == api.ValueNull {
			return Null()
		}
		return f(a, b)
	}
}

// reckoned leaves f what has neither null nor NaN in it.
func reckoned(f two) two {
	return unlessNull(func(a, b api.Value) api.Value {
		if eitherNaN(a, b) {
			return NaN()
		}
		return f(a, b)
	})
}

// compared is a truth by the order of two values; a NaN has none.
func compared(ofNaN bool, holds func(order int) bool) two {
	return unlessNull(func(a, b api.Value) api.Value {
		if eitherNaN(a, b) {
			return Truth(ofNaN)
		}
		return Truth(holds(order(a, b)))
	})
}

func eitherNaN(a, b api.Value) bool {
	return a.Kind == api.ValueNaN || b.Kind == api.ValueNaN
}

// order is -1, 0 or 1, as a lies to b, of values that are neither null nor NaN.
func order(a, b api.Value) int {
	if c := cmp.Compare(height(a), height(b)); c != 0 {
		return c
	}
	return cmp.Compare(a.N, b.N)
}

// height is 0 of all numbers.
func height(v api.Value) int {
	if isNum(v) {
		return 0
	}
	return sign(v)
}

func not(v api.Value) api.Value {
	if v.Kind == api.ValueNull {
		return v
	}
	return Truth(!True(v))
}
