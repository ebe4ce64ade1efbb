package value

import (
	"strconv"
	"strings"

	"klaxon/api"
)

// Print is the text of a value (P8.5).
func Print(v api.Value) string {
	if !isValue(v) {
		return ""
	}
	switch v.Kind {
	case api.ValueNull:
		return "null"
	case api.ValueNaN:
		return "NaN"
	case api.ValuePlus:
		return "+Inf"
	case api.ValueMinus:
		return "-Inf"
	}
	return printNum(v.N)
}

func printNum(n int64) string {
	text := strconv.FormatUint(size(n)/thousand, 10)
	if rest := size(n) % thousand; rest != 0 {
		// The 1 of the thousand keeps the 0s ahead, and is cut off.
		digits := strconv.FormatUint(thousand+rest, 10)[1:]
		text += "." + strings.TrimRight(digits, "0")
	}
	if n < 0 {
		return "-" + text
	}
	return text
}

// Parse is the value whose text s is (P8.5). It takes the only one that s may
// be the text of, and prints it: so what is a value's text is said in Print
// alone.
func Parse(s string) (api.Value, api.Errno) {
	for _, v := range []api.Value{Null(), NaN(), Plus(), Minus(), Num(thousandths(s))} {
		if Print(v) == s {
			return v, api.OK
		}
	}
	return api.Value{}, api.ErrValue
}

// thousandths is how many thousandths a number has that is written so; of what
// is no number's text it may be any.
func thousandths(s string) int64 {
	whole, rest, _ := strings.Cut(s, ".")
	n, err := strconv.ParseInt(whole+(rest + "000")[:3], 10, 64)
	if err != nil {
		return 0
	}
	return n
}
