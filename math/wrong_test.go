package math_test

import (
	"slices"
	"strings"
	"testing"

	"klaxon/api"
)

// P11.2: a text that ends too early, at each place of the grammar, is wrong
// where it ends, its blanks too.
func TestParseOfTextsThatEnd(t *testing.T) {
	ends := []string{"", "(", "((", "(1", "((1)", "(1+2", "(1<2", "-", "!", "--", "-(", "-(1", "!(1", "1+-", "1 + (2 *", "1 + (2 * 3", "1&&2||", "1<2&&", "(1)+", "$A*", "null/", "inf-", "nan<"}
	for _, name := range functions() {
		ends = append(ends, name, name+"(", name+"(1", name+"(1+", name+"(abs(1)", "-"+name, "1+"+name)
	}
	for _, op := range opsOfTwo() {
		ends = append(ends, "1"+op, "1"+op+"(", "1"+op+"-", "(1"+op+"2", "(1"+op)
	}
	for _, s := range ends {
		for _, gap := range []string{"", " ", "    "} {
			refuses(t, s+gap, api.ErrExpr, len(s+gap))
			refuses(t, gap+s, api.ErrExpr, len(gap+s))
		}
	}
}

// P11.2: a token that may not stand there, at each place.
func TestParseOfWrongTokens(t *testing.T) {
	operands := []string{"1", "2.5", "null", "nan", "inf", "$A", "abs", "is_nan", "(", "!"}
	var between []string
	for _, op := range opsOfTwo() {
		if op != "-" {
			between = append(between, op)
		}
	}
	behindEach := func(begin string, wrong ...string) {
		for _, token := range wrong {
			for _, end := range []string{"", " ", "1", " 1", ")", "(1)"} {
				refuses(t, begin+" "+token+" "+end, api.ErrExpr, len(begin)+1)
			}
		}
	}
	for _, begin := range []string{"", "(", "1+", "1 &&", "1 <", "-", "!", "abs(", "(1 ||", "1 * (", "1 - -"} {
		behindEach(begin, between...)
		behindEach(begin, ")")
	}
	for _, begin := range []string{"1", "2.5", "null", "$A", "(1)", "abs(1)", "1+2", "1<2", "1&&2", "-1", "!$A", "(1", "abs(1", "1+(2*3", "((1)"} {
		behindEach(begin, operands...)
	}
	for _, begin := range []string{"abs", "1+floor", "-is_inf", "(is_number", "abs(is_null"} {
		behindEach(begin, between...)
		behindEach(begin, slices.DeleteFunc(slices.Clone(operands), func(s string) bool { return s == "(" })...)
		behindEach(begin, ")", "-")
	}
	for _, begin := range []string{"1", "(1)", "abs(1)", "1+2", "(1)*(2)", "-1", "((1))"} {
		behindEach(begin, ")")
	}
}

// P11.2: what is no token, or is not whole, is wrong where it begins.
func TestParseOfNoTokens(t *testing.T) {
	none := []string{
		"&", "|", "=", "$", "$a", "$_", "$1", "$aB", "$-", "$(", "$$A", "$" + strings.Repeat("A", api.MaxRef+1),
		"00", "01", "007", "0.0", "1.0", "1.50", "1.100", "1.2345", "0.0001", "1000000000000.001", "1000000000001", "1000000000000.0", "9999999999999", "18446744073709551616", strings.Repeat("1", 500),
		"a", "x1", "_", "_1", "A", "AB", "Null", "NULL", "NaN", "Inf", "true", "absx", "ab", "is_", "isnan", "is_nul", "nul", "n", "i", "Abs", "ceil", "min", "last",
		".", ".5", ",", ";", "%", "^", "~", "?", ":", "[", "]", "{", "}", "#", "@", "\\", "'", "\"", "`", "\t", "\n", "\r", "\v", "\f", "\x00", "\x1f", "\x7f", "\x80", "\xa0", "\xff", "ä", "\u00a0", "\u2003", "＋", "≤",
	}
	for _, token := range none {
		for _, begin := range []string{"", " ", "(", "1 + ", "-", "abs(", "abs ", "1 < ", "1 ", "(1) ", "1 + $A ", "(1 ", "abs(1 "} {
			for _, end := range []string{"", " ", " 1", " + 1", ")"} {
				refuses(t, begin+token+end, api.ErrExpr, len(begin))
			}
		}
	}
}

// P11.1, P11.2: of a point that no digit follows, the digits ahead are a number,
// and the point is wrong where it stands, if that number may stand there.
func TestParseOfPointsBehindNumbers(t *testing.T) {
	ends := []string{"", " ", ".", "..", ".2", " 5", "+2", " + 2", ")", "x", "e5", "_", "$A", "-1", "null", "\t", "\x00", "ä"}
	for _, number := range []string{"0", "1", "9", "12", "1.5", "0.001", "999999999999.999", "1000000000000"} {
		for _, end := range ends {
			for _, begin := range []string{"", " ", "(", "((", "-", "!", "abs(", "2 + ", "$A * ", "1 < ", "1.5-", "null && ", "(1) || "} {
				refuses(t, begin+number+"."+end, api.ErrExpr, len(begin+number))
			}
			// The number is wrong already, whatever is behind it.
			for _, begin := range []string{"1 ", "$A ", "(1) ", "abs ", "1 + $A ", "(1 ", "abs(1 "} {
				refuses(t, begin+number+"."+end, api.ErrExpr, len(begin))
			}
		}
	}
	for _, spoiled := range []string{"00", "01", "1.0", "1.50", "1.2345", "1000000000001", "1000000000000.001"} {
		for _, end := range ends {
			refuses(t, spoiled+"."+end, api.ErrExpr, 0)
			refuses(t, "2 + "+spoiled+"."+end, api.ErrExpr, 4)
		}
	}
}

// P11.1: other white bytes are no blanks, wherever they stand.
func TestParseOfOtherWhiteBytes(t *testing.T) {
	tokens := strings.Fields("abs ( - 1.5 ) && ! $A + null")
	for _, white := range []string{"\t", "\n", "\r", "\v", "\f", "\x00", "\xa0", "\u00a0", "\u0085", "\u2028", "\u3000", "\ufeff"} {
		for i := range len(tokens) + 1 {
			begin := strings.Join(tokens[:i], " ") + " "
			refuses(t, begin+white+strings.Join(tokens[i:], " "), api.ErrExpr, len(begin))
			refuses(t, begin+white+" "+strings.Join(tokens[i:], " "), api.ErrExpr, len(begin))
		}
	}
}

// P11.2: brackets that are not shut, or shut twice.
func TestParseOfBrackets(t *testing.T) {
	for s, at := range map[string]int{
		")": 0, "()": 1, "( )": 2, "(())": 2, "1)": 1, "(1))": 3, "((1)))": 5, "(1)(2)": 3, "(1": 2, "((1)": 4, "(1 ": 3, "abs()": 4, "abs(1))": 6, "abs(1": 5, "abs 1": 4, "abs(1 2)": 6, "abs(1,2)": 5,
		"abs": 3, "abs)": 3, "null()": 4, "$A(1)": 2, "1(2)": 1, "(1+)": 3, "(+1)": 1, "(1]": 2, "[1]": 0, "1+(": 3, "abs((1)": 7, "-)": 1, "!()": 2,
	} {
		refuses(t, s, api.ErrExpr, at)
	}
}

// nested is a text that nests n deep, by these beginnings in turn, each of which
// nests one deep, and the place of what stands in the midst.
func nested(n int, begins ...string) (string, int) {
	begin, end := "", ""
	for i := range n {
		begin += begins[i%len(begins)]
		end += strings.Repeat(")", strings.Count(begins[i%len(begins)], "("))
	}
	return begin + "1" + end, len(begin)
}

// P11.2: MaxNest deep, and one deeper.
func TestParseOfWhatNests(t *testing.T) {
	for _, begins := range [][]string{
		{"("}, {"( "}, {"-"}, {"!"}, {"! "}, {"-", "!"}, {"abs("}, {"is_number ( "}, {"abs(", "floor(", "is_null(", "is_nan(", "is_inf("}, {"(", "-"}, {"-", "("}, {"-", "abs("}, {"!", "(", "floor("},
		{"1+("}, {"1 - 2 * ("}, {"1 < ("}, {"1&&abs("}, {"1+-", "abs("}, {"(", "-", "abs(", "!"}, {"1*(", "2==floor(", "-", "("},
	} {
		for _, n := range []int{0, 1, 2, api.MaxNest - 1, api.MaxNest} {
			s, _ := nested(n, begins...)
			parsed(t, s)
			isSaid(t, s)
		}
		s, place := nested(api.MaxNest+1, begins...)
		refuses(t, s, api.ErrDeep, place)
		refuses(t, "1+"+s, api.ErrDeep, place+2)
		refuses(t, s[:place+1], api.ErrDeep, place)
		refuses(t, s[:place]+"  $A ?", api.ErrDeep, place+2)
		deeper, _ := nested(api.MaxNest+9, begins...)
		isSaid(t, deeper)
	}
}

// P11.2: beside one another, operands are not in one another.
func TestParseOfWhatDoesNotNest(t *testing.T) {
	deep, _ := nested(api.MaxNest, "(")
	signs, _ := nested(api.MaxNest, "-")
	calls, _ := nested(api.MaxNest, "abs(")
	for _, op := range opsOfTwo() {
		parsed(t, deep+op+deep)
		parsed(t, signs+op+signs)
		parsed(t, calls+op+deep)
		parsed(t, "0"+op+signs)
	}
	parsed(t, strings.Repeat("(1)+", 200)+"1")
	parsed(t, strings.Repeat("-1+", 200)+"1")
	parsed(t, strings.Repeat("abs(1)*", 100)+"1")
	parsed(t, strings.Repeat("1||", 300)+"1")
	parsed(t, strings.Repeat("1<2&&", 200)+"1")
}

// P11.2: of ErrExpr and ErrDeep the one that comes first; at one place that is
// ErrExpr, for nothing begins there that could be nested.
func TestParseOfWrongAndDeep(t *testing.T) {
	for _, begin := range []string{"(", "-", "!", "abs("} {
		deep := strings.Repeat(begin, api.MaxNest+1)
		for _, s := range []string{"1", "(", "-", "!", "abs", "abs 1", "$A", "null", "1?", "1.", "10.x", "(?", "1)))", "1 2"} {
			refuses(t, deep+s, api.ErrDeep, len(deep))
			refuses(t, deep+"  "+s, api.ErrDeep, len(deep)+2)
			refuses(t, "1 2 "+deep+s, api.ErrExpr, 2)
			refuses(t, "1 + "+deep+s, api.ErrDeep, 4+len(deep))
		}
		for _, s := range []string{"", ")", "*", "&", "$a", "x", "?", "\t1", "01", "01.", ".5"} {
			refuses(t, deep+s, api.ErrExpr, len(deep))
			refuses(t, deep+"  "+s, api.ErrExpr, len(deep)+2)
		}
	}
}
