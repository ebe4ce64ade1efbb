package math_test

import (
	"strings"
	"testing"

	"klaxon/api"
	"klaxon/math"
)

// P11.1
func TestRef(t *testing.T) {
	for _, s := range []string{"A", "M", "Z", "AA", "Aa", "Az", "AZ", "A0", "Z9", "A_", "A__", "A_b_9", "Abs", "NULL", "A" + strings.Repeat("x", api.MaxRef-1), "Z_0123456789abcd"} {
		if !math.Ref(s) {
			t.Errorf("%q is a ref", s)
		}
	}
	for _, s := range []string{
		"", " ", "a", "z", "_", "0", "9", "$", "$A", "_A", "0A", "aA", "abs", "null", " A", "A ", "A B", "A-B", "A.B", "A$", "A\x00", "A\n", "Ä", "Aä", "A\xff", "\xff",
		"A" + strings.Repeat("x", api.MaxRef), strings.Repeat("A", 100000),
	} {
		if math.Ref(s) {
			t.Errorf("%s is no ref", brief(s))
		}
	}
}

// P11.1
func TestRefOfEachByte(t *testing.T) {
	for c := range 256 {
		capital := 'A' <= c && c <= 'Z'
		other := 'a' <= c && c <= 'z' || '0' <= c && c <= '9' || c == '_'
		b := string([]byte{byte(c)})
		if math.Ref(b) != capital {
			t.Errorf("%q", b)
		}
		for _, s := range []string{"A" + b, "AB" + b, "A" + b + "B", "A" + b + "0"} {
			if math.Ref(s) != (capital || other) {
				t.Errorf("%q", s)
			}
		}
		if math.Ref(b+"B") != capital {
			t.Errorf("%q", b+"B")
		}
	}
}

// P11.1
func TestParse(t *testing.T) {
	for s, want := range map[string]string{
		"$A + 2 * $B > 3":         ">(+($A, *(2, $B)), 3)",
		"1":                       "1",
		"$A":                      "$A",
		"null":                    "null",
		"nan":                     "nan",
		"inf":                     "inf",
		"(1)":                     "1",
		"((($A)))":                "$A",
		"-1":                      "-(1)",
		"-inf":                    "-(inf)",
		"--1":                     "-(-(1))",
		"-!-!1":                   "-(!(-(!(1))))",
		"!!$A":                    "!(!($A))",
		"1--1":                    "-(1, -(1))",
		"1---1":                   "-(1, -(-(1)))",
		"1+-2":                    "+(1, -(2))",
		"-1+2":                    "+(-(1), 2)",
		"-1*2":                    "*(-(1), 2)",
		"!1==2":                   "==(!(1), 2)",
		"!1&&2":                   "&&(!(1), 2)",
		"!(1&&2)":                 "!(&&(1, 2))",
		"-(1+2)":                  "-(+(1, 2))",
		"-abs(1)":                 "-(abs(1))",
		"abs(-1)":                 "abs(-(1))",
		"abs(1)+2":                "+(abs(1), 2)",
		"abs(1+2)*3":              "*(abs(+(1, 2)), 3)",
		"abs(floor($A))":          "abs(floor($A))",
		"abs((1))":                "abs(1)",
		"is_null($A)||is_nan($A)": "||(is_null($A), is_nan($A))",
		"1*2+3*4":                 "+(*(1, 2), *(3, 4))",
		"1*(2+3)*4":               "*(*(1, +(2, 3)), 4)",
		"1-2+3-4":                 "-(+(-(1, 2), 3), 4)",
		"8/4*2/1":                 "/(*(/(8, 4), 2), 1)",
		"1||2||3":                 "||(||(1, 2), 3)",
		"1&&2&&3":                 "&&(&&(1, 2), 3)",
		"1||2&&3||4":              "||(||(1, &&(2, 3)), 4)",
		"1<2&&3>=4":               "&&(<(1, 2), >=(3, 4))",
		"1<2||3==4&&5!=6":         "||(<(1, 2), &&(==(3, 4), !=(5, 6)))",
		"1+2<3-4":                 "<(+(1, 2), -(3, 4))",
		"(1<2)<3":                 "<(<(1, 2), 3)",
		"1<(2<3)":                 "<(1, <(2, 3))",
		"(1<2)==(3<4)":            "==(<(1, 2), <(3, 4))",
		"1-(2-3)":                 "-(1, -(2, 3))",
		"(1<2)+(3<4)<5":           "<(+(<(1, 2), <(3, 4)), 5)",
		"abs(1<2)<3":              "<(abs(<(1, 2)), 3)",
	} {
		parses(t, s, want)
	}
}

// P11.1: an operation binds as its level says, and of one level the left ones
// are first; but of two comparisons the second may not stand there.
func TestParseOfEachTwoOperations(t *testing.T) {
	for _, f := range opsOfTwo() {
		parses(t, "1"+f+"2", f+"(1, 2)")
		for _, g := range opsOfTwo() {
			s := "1 " + f + " 2 " + g + " 3"
			left, right := g+"("+f+"(1, 2), 3)", f+"(1, "+g+"(2, 3))"
			switch {
			case levelOf(f) == relLevel && levelOf(g) == relLevel:
				refuses(t, s, api.ErrExpr, len("1 "+f+" 2 "))
				refuses(t, "("+s+")", api.ErrExpr, len("(1 "+f+" 2 "))
				refuses(t, "0+"+s, api.ErrExpr, len("0+1 "+f+" 2 "))
			case levelOf(f) >= levelOf(g):
				parses(t, s, left)
			default:
				parses(t, s, right)
			}
			parses(t, "(1 "+f+" 2) "+g+" 3", left)
			parses(t, "1 "+f+" (2 "+g+" 3)", right)
		}
	}
}

// P11.1: signs bind closer than all operations of two.
func TestParseOfEachSignAndFunction(t *testing.T) {
	for _, sign := range turning() {
		parses(t, sign+"1", sign+"(1)")
		for _, op := range opsOfTwo() {
			parses(t, sign+"1"+op+"2", op+"("+sign+"(1), 2)")
			parses(t, "1"+op+sign+"2", op+"(1, "+sign+"(2))")
			parses(t, sign+"(1"+op+"2)", sign+"("+op+"(1, 2))")
		}
	}
	for _, name := range functions() {
		parses(t, name+"(1)", name+"(1)")
		parses(t, "!"+name+"( $A )", "!("+name+"($A))")
		for _, op := range opsOfTwo() {
			parses(t, name+"(1"+op+"2)", name+"("+op+"(1, 2))")
			parses(t, name+"(1)"+op+name+"(2)", op+"("+name+"(1), "+name+"(2))")
		}
	}
}

// P11.1
func TestParseOfNumbers(t *testing.T) {
	for s, want := range map[string]int64{
		"0": 0, "1": 1000, "9": 9000, "10": 10000, "1.5": 1500, "0.5": 500, "0.05": 50, "0.001": 1, "0.999": 999, "12.34": 12340, "100.125": 100125,
		"999999999999": maxNum - 1000, "999999999999.999": maxNum - 1, "1000000000000": maxNum,
	} {
		x, err, place := math.Parse(s)
		if err != api.OK || place != 0 || x.Kind != api.ExprNum || x.Value != num(want) {
			t.Errorf("%s: %v, error %d at %d", s, x, err, place)
		}
		parses(t, "-"+s+"/ "+s+" ", "/(-("+s+"), "+s+")")
	}
	for s, want := range map[string]api.Value{"null": null, "nan": nan, "inf": plus} {
		x, err, place := math.Parse(s)
		if err != api.OK || place != 0 || x.Kind != api.ExprNum || x.Value != want {
			t.Errorf("%s: %v, error %d at %d", s, x, err, place)
		}
	}
}

// P11.1
func TestParseOfRefs(t *testing.T) {
	for _, name := range []string{"A", "Z", "Ab", "A1", "A_", "A_9z", "ABS", "A" + strings.Repeat("x", api.MaxRef-1), strings.Repeat("Z", api.MaxRef)} {
		parses(t, "$"+name, "$"+name)
		parses(t, "2-$"+name+"-2", "-(-(2, $"+name+"), 2)")
		if x := parsed(t, "$"+name); x.Kind != api.ExprRef || x.Name != name {
			t.Errorf("%s: %v", name, x)
		}
	}
}

// P11.1: blanks may stand between all tokens, ahead of the first one and behind
// the last one, as many as there may be.
func TestParseWithBlanks(t *testing.T) {
	const want = "||(&&(is_null(-(1.5)), >=(+(!($A), null), *(2, inf))), $B)"
	tokens := strings.Fields("is_null ( - 1.5 ) && ! $A + null >= ( 2 * inf ) || $B")
	for _, gap := range []string{"", " ", "   "} {
		s := gap + strings.Join(tokens, gap) + gap
		parses(t, s, want)
	}
	for i := range tokens {
		parses(t, strings.Join(tokens[:i], "")+"  "+strings.Join(tokens[i:], ""), want)
	}
	parses(t, strings.Join(tokens, "")+" ", want)
}

// P11.1: a token is as long as it can be.
func TestParseOfLongTokens(t *testing.T) {
	for s, want := range map[string]string{
		"1<=2": "<=(1, 2)", "1<-2": "<(1, -(2))", "1>=2": ">=(1, 2)", "1>!2": ">(1, !(2))", "1!=2": "!=(1, 2)", "1!=!2": "!=(1, !(2))", "1==!2": "==(1, !(2))", "1==-2": "==(1, -(2))",
		"12": "12", "1.25": "1.25", "$AB": "$AB", "$A1": "$A1", "$A1-1": "-($A1, 1)", "$Anull": "$Anull", "$A_": "$A_", "is_nan(nan)": "is_nan(nan)", "is_number(1)": "is_number(1)",
	} {
		parses(t, s, want)
	}
	for s, at := range map[string]int{
		"!=1": 0, "1+!=1": 2, "1===2": 3, "1<==2": 3, "1!==2": 3, "1<>2": 2, "1><2": 2, "1=<2": 1, "1&&&2": 3, "1|||2": 3, "1|&2": 1, "1=!2": 1,
		"1< =2": 3, "1! =2": 1, "1= =2": 1, "1& &2": 1, "1| |2": 1, "1 2": 2, "1. 5": 1, "1 .5": 2, "$ A": 0, "$A B": 3, "$A$B": 2, "nu ll": 0, "is_ nan(1)": 0, "is _nan(1)": 0,
		"nullx": 0, "null1": 0, "nulls(1)": 0, "nan_": 0, "inf0": 0, "infinity": 0, "absolute(1)": 0, "abs1": 0, "abs_(1)": 0, "is_nanA(1)": 0, "is_(1)": 0,
		"1null": 1, "1abs(1)": 1, "1$A": 1, "1e5": 1, "0x10": 1, "1_000": 1, "1.2.3": 3, "1..2": 1,
		"1.": 1, "12.": 2, "1.+2": 1, "1.x": 1, "2 + 1.": 5, "(1.)": 2, "$A * 10.": 7, "1.2.": 3, "1.2345": 0, "1.2345.": 0, "01": 0, "01.": 0,
	} {
		refuses(t, s, api.ErrExpr, at)
	}
}

// P11.2: MaxExpr bytes, and one more, whatever they are.
func TestParseOfLongTexts(t *testing.T) {
	sum := "1" + strings.Repeat("+1", (api.MaxExpr-1)/2)
	parses(t, sum+" ", strings.Repeat("+(", (api.MaxExpr-1)/2)+"1"+strings.Repeat(", 1)", (api.MaxExpr-1)/2))
	refuses(t, sum+"  ", api.ErrLong, 0)
	refuses(t, sum+"+", api.ErrExpr, api.MaxExpr)
	refuses(t, sum+"+1", api.ErrLong, 0)
	blank := strings.Repeat(" ", api.MaxExpr)
	parses(t, blank[1:]+"1", "1")
	parses(t, "1"+blank[1:], "1")
	refuses(t, blank, api.ErrExpr, api.MaxExpr)
	refuses(t, blank+" ", api.ErrLong, 0)
	refuses(t, blank+"1", api.ErrLong, 0)
	refuses(t, "1"+blank, api.ErrLong, 0)
	refuses(t, "?"+blank, api.ErrLong, 0)
	refuses(t, strings.Repeat("(", api.MaxExpr), api.ErrDeep, api.MaxNest+1)
	refuses(t, strings.Repeat("(", api.MaxExpr+1), api.ErrLong, 0)
	refuses(t, strings.Repeat("9", api.MaxExpr), api.ErrExpr, 0)
	refuses(t, "$"+strings.Repeat("A", api.MaxExpr-1), api.ErrExpr, 0)
	refuses(t, strings.Repeat("x", 1<<20), api.ErrLong, 0)
}
