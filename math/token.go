package math

import (
	"strings"

	"klaxon/api"
	"klaxon/value"
)

// What a token is.
const (
	tokenNone = iota // none begins there, or it is not whole
	tokenEnd         // the text is over
	tokenSign
	tokenValue
	tokenRef
	tokenFunction
)

// token is a token of size bytes. Its text is that of a sign, or the name of a
// ref or of a function, which is never that of a sign.
type token struct {
	kind  int
	size  int
	text  string
	value api.Value
}

// The levels of operations of two, the loosest first.
const (
	levelOr = iota
	levelAnd
	levelRel
	levelSum
	levelProd
	levelCount
	levelNone // of a sign that stands between no two operands
)

type sign struct {
	text  string
	level int
}

// Longer signs stand ahead of those that they begin with, so that the first one
// that is found is the longest.
var signs = [...]sign{
	{"||", levelOr},
	{"&&", levelAnd},
	{"==", levelRel}, {"!=", levelRel}, {"<=", levelRel}, {">=", levelRel}, {"<", levelRel}, {">", levelRel},
	{"+", levelSum}, {"-", levelSum},
	{"*", levelProd}, {"/", levelProd},
	{"!", levelNone}, {"(", levelNone}, {")", levelNone},
}

const (
	wordNull = "null"
	wordNaN  = "nan"
	wordInf  = "inf"
)

// firstToken is the token that s begins with. All bytes of its form belong to it,
// also where they spoil it: a word's, a ref's, a number's digits.
func firstToken(s string) token {
	switch {
	case s == "":
		return token{kind: tokenEnd}
	case s[0] == '$':
		return firstRef(s)
	case isDigit(s[0]):
		return firstNumber(s)
	case isWordByte(s[0]):
		return ofWord(s[:run(s, isWordByte)])
	}
	return firstSign(s)
}

func firstRef(s string) token {
	name := s[1 : 1+run(s[1:], isWordByte)]
	if !Ref(name) {
		return token{}
	}
	return token{kind: tokenRef, size: 1 + len(name), text: name}
}

func firstNumber(s string) token {
	size := numberSize(s)
	v, err := value.Parse(s[:size])
	if err != api.OK {
		return token{}
	}
	return token{kind: tokenValue, size: size, value: v}
}

// numberSize leaves out a point that no digit follows: the digits ahead of it are
// a number of their own, and the point begins no token.
func numberSize(s string) int {
	whole := run(s, isDigit)
	behind, pointed := strings.CutPrefix(s[whole:], ".")
	if part := run(behind, isDigit); pointed && part > 0 {
		return whole + len(".") + part
	}
	return whole
}

func ofWord(word string) token {
	switch word {
	case wordNull:
		return token{kind: tokenValue, size: len(word), value: value.Null()}
	case wordNaN:
		return token{kind: tokenValue, size: len(word), value: value.NaN()}
	case wordInf:
		return token{kind: tokenValue, size: len(word), value: value.Plus()}
	case "abs", "floor", "is_null", "is_nan", "is_inf", "is_number":
		return token{kind: tokenFunction, size: len(word), text: word}
	}
	return token{}
}

func firstSign(s string) token {
	for _, x := range signs {
		if strings.HasPrefix(s, x.text) {
			return token{kind: tokenSign, size: len(x.text), text: x.text}
		}
	}
	return token{}
}

// turns is whether a sign may stand ahead of one operand.
func turns(sign string) bool { return sign == "-" || sign == "!" }

// opens is whether an expression may begin with t.
func (t token) opens() bool {
	switch t.kind {
	case tokenValue, tokenRef, tokenFunction:
		return true
	}
	return t.text == "(" || turns(t.text)
}

// level is which level t joins two operands at, if it does.
func (t token) level() int {
	for _, x := range signs {
		if t.text == x.text {
			return x.level
		}
	}
	return levelNone
}
