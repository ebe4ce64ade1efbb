package math

import (
	"strings"

	"klaxon/api"
	"klaxon/value"
)

// Print is the text of x (P11.3).
func Print(x api.Expr) string {
	var b strings.Builder
	write(&b, x)
	return b.String()
}

func write(b *strings.Builder, x api.Expr) {
	switch x.Kind {
	case api.ExprNum:
		b.WriteString(textOf(x.Value))
	case api.ExprRef:
		b.WriteString("$" + x.Name)
	case api.ExprCall:
		writeCall(b, x)
	}
}

// textOf is the value as the grammar has it.
func textOf(v api.Value) string {
	switch v {
	case value.Null():
		return wordNull
	case value.NaN():
		return wordNaN
	case value.Plus():
		return wordInf
	}
	return value.Print(v)
}

func writeCall(b *strings.Builder, x api.Expr) {
	switch {
	case isOfTwo(x):
		writeOperand(b, x.Kids[0])
		b.WriteString(" " + x.Name + " ")
		writeOperand(b, x.Kids[1])
	case len(x.Kids) != 1:
		// No operation has so many operands.
	case turns(x.Name):
		b.WriteString(x.Name)
		writeOperand(b, x.Kids[0])
	default:
		b.WriteString(x.Name)
		writeInBrackets(b, x.Kids[0])
	}
}

func writeOperand(b *strings.Builder, x api.Expr) {
	if isOfTwo(x) {
		writeInBrackets(b, x)
		return
	}
	write(b, x)
}

func writeInBrackets(b *strings.Builder, x api.Expr) {
	b.WriteString("(")
	write(b, x)
	b.WriteString(")")
}

func isOfTwo(x api.Expr) bool { return x.Kind == api.ExprCall && len(x.Kids) == 2 }
