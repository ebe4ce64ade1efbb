package value_test

import (
	"math/big"
	"math/rand"
	"regexp"
	"strings"
	"testing"

	"klaxon/api"
	"klaxon/value"
)

// written has values with their texts written out.
var written = []struct {
	v api.Value
	s string
}{
	{null, "null"}, {nan, "NaN"}, {plus, "+Inf"}, {minus, "-Inf"},
	{num(0), "0"},
	{num(1), "0.001"}, {num(-1), "-0.001"},
	{num(9), "0.009"}, {num(10), "0.01"}, {num(-10), "-0.01"}, {num(11), "0.011"},
	{num(99), "0.099"}, {num(100), "0.1"}, {num(-100), "-0.1"}, {num(101), "0.101"}, {num(110), "0.11"},
	{num(500), "0.5"}, {num(-500), "-0.5"}, {num(999), "0.999"}, {num(-999), "-0.999"},
	{num(1000), "1"}, {num(-1000), "-1"}, {num(1001), "1.001"}, {num(-1001), "-1.001"},
	{num(1010), "1.01"}, {num(1100), "1.1"}, {num(1999), "1.999"}, {num(2000), "2"},
	{num(10000), "10"}, {num(10010), "10.01"}, {num(100000), "100"}, {num(-120000), "-120"}, {num(123456), "123.456"},
	{num(90071992547409), "90071992547.409"},
	{num(maxNum - 1), "999999999999.999"}, {num(1 - maxNum), "-999999999999.999"},
	{num(maxNum - 1000), "999999999999"}, {num(maxNum - 900), "999999999999.1"},
	{num(maxNum), "1000000000000"}, {num(-maxNum), "-1000000000000"},
}

// isText asks that s is just the text of v, and v just the value of s.
func isText(t *testing.T, v api.Value, s string) {
	t.Helper()
	if got := value.Print(v); got != s {
		t.Errorf("Print(%v): %q, want %q", v, got, s)
	}
	if got, err := value.Parse(s); got != v || err != api.OK {
		t.Errorf("Parse(%q): %v, error %d, want %v", s, got, err, v)
	}
}

// isNoText asks that s is refused.
func isNoText(t *testing.T, s string) {
	t.Helper()
	if v, err := value.Parse(s); v != (api.Value{}) || err != api.ErrValue {
		t.Errorf("Parse(%q): %v, error %d", s, v, err)
	}
}

// P8.5
func TestWrittenTexts(t *testing.T) {
	for _, w := range written {
		isText(t, w.v, w.s)
	}
}

// P8.5
func TestNoValueHasAText(t *testing.T) {
	for _, v := range noValues() {
		if s := value.Print(v); s != "" {
			t.Errorf("Print(%v): %q", v, s)
		}
	}
}

// P8.5: texts that are no value's.
func TestNoTexts(t *testing.T) {
	for _, s := range []string{
		"", " ", "-", "+", ".", "-.", "+.", "--", "..", "\x00", "x", "e",
		"-0", "+0", "00", "-00", "0.", "-0.", ".0", "0.0", "-0.0", "0.00", "0.000", "-0.000", "0.0000",
		"01", "-01", "001", "00.5", "-00.5", "01.5", "0100",
		"1.", "-1.", ".5", "-.5", "+.5", ".", ".001",
		"1.0", "1.10", "1.100", "1.000", "-1.0", "0.10", "0.100", "0.010", "1000000000000.0", "1000000000000.000",
		"1.2345", "0.0001", "0.0010", "1.0001", "1.1234", "-1.2345", "1.00000000000000000001", "999999999999.9999",
		"+1", "+0.5", "+1.5", "--1", "-+1", "+-1", "1-", "1+", "-1-", "1-1", "1.-5", "1.+5", "1.-", "-1.-5", "- 1",
		"1000000000000.001", "-1000000000000.001", "1000000000001", "-1000000000001", "1000000000000.1", "10000000000000",
		"9223372036854775", "9223372036854775.807", "9223372036854775807", "9223372036854775808", "-9223372036854775808", "-9223372036854775809",
		"18446744073709551", "18446744073709551.616", "18446744073709551.617", "18446744073709551616", "18446744073709551617", "18446744073709551616000",
		"18446744073709552.616", "-18446744073709551616", "340282366920938463463374607431768211456", "340282366920938463463374607431768211457",
		strings.Repeat("9", 1000), "-" + strings.Repeat("9", 1000), "1" + strings.Repeat("0", 100000), strings.Repeat("0", 100) + "1", "0." + strings.Repeat("0", 1000) + "1",
		" 1", "1 ", "1\n", "\t1", "1 000", "1. 5", "1 .5", " null", "null ", "NaN\x00", "\x00NaN",
		"1.5.5", "1..5", "1.5.", ".1.", "1,5", "1_000", "0_1", "1'000", "0x1", "0b1", "0o1", "0x", "1e3", "1e0", "1.5e1", "1E3", "1f", "1k", "1\x00", "1\xff",
		"Null", "NULL", "nul", "nulll", "null1", "nil", "none", "nan", "NAN", "Nan", "NaNs", "+NaN", "-NaN", "+null", "-null",
		"Inf", "inf", "+inf", "-inf", "+INF", "+Infinity", "-Infinity", "Infinity", "++Inf", "--Inf", "+-Inf", "+Inf.0", "+Inf ", "\u221e", "+In", "-I",
		"true", "false", "\u0661", "\uff11", "\u22121", "\u00bd", "\"1\"", "(1)",
	} {
		isNoText(t, s)
	}
}

// numeral is the form of a number's text; how great it may be, it does not say.
var numeral = regexp.MustCompile(`^(0|-?[1-9][0-9]*|-?(0|[1-9][0-9]*)\.[0-9]{0,2}[1-9])$`)

// saidValue is what P8.5 says of a text, or false.
func saidValue(s string) (api.Value, bool) {
	switch s {
	case "null":
		return null, true
	case "NaN":
		return nan, true
	case "+Inf":
		return plus, true
	case "-Inf":
		return minus, true
	}
	if !numeral.MatchString(s) {
		return api.Value{}, false
	}
	f, _ := new(big.Rat).SetString(s)
	f.Mul(f, big.NewRat(1000, 1))
	if f.Num().CmpAbs(big.NewInt(maxNum)) > 0 {
		return api.Value{}, false
	}
	return num(f.Num().Int64()), true
}

// isAsSaid asks P8.5 of a text, and tells whether it is a value's.
func isAsSaid(t *testing.T, s string) bool {
	t.Helper()
	v, there := saidValue(s)
	if there {
		isText(t, v, s)
	} else {
		isNoText(t, s)
	}
	return there
}

// P8.5: all short texts of what numbers are made of.
func TestAllShortTexts(t *testing.T) {
	texts, found := []string{""}, 0
	for range 6 {
		var longer []string
		for _, s := range texts {
			for _, c := range "0129.-+" {
				longer = append(longer, s+string(c))
			}
		}
		for _, s := range longer {
			if isAsSaid(t, s) {
				found++
			}
		}
		texts = longer
	}
	if found < 1000 {
		t.Errorf("only %d of them are values' texts", found)
	}
}

// P8.5: a text with one byte more, less, or another one.
func TestTextsWithAFault(t *testing.T) {
	const bytes = "0159.-+ _eINafnul\x00\xff"
	for _, w := range written {
		for i := range len(w.s) + 1 {
			for _, c := range []byte(bytes) {
				isAsSaid(t, w.s[:i]+string([]byte{c})+w.s[i:])
				if i < len(w.s) {
					isAsSaid(t, w.s[:i]+string([]byte{c})+w.s[i+1:])
				}
			}
			if i < len(w.s) {
				isAsSaid(t, w.s[:i]+w.s[i+1:])
			}
			isAsSaid(t, w.s[:i])
		}
	}
}

// P8.5: what is printed is parsed to the same value, and no two values have
// one text.
func TestPrintedIsParsed(t *testing.T) {
	r := rand.New(rand.NewSource(6))
	l := edgeValues()
	for range 20000 {
		l = append(l, anyValue(r))
	}
	for n := int64(-12000); n <= 12000; n++ {
		l = append(l, num(n))
	}
	texts := map[string]api.Value{}
	for _, v := range l {
		s := value.Print(v)
		if said, there := saidValue(s); !there || said != v {
			t.Errorf("Print(%v): %q", v, s)
		}
		isText(t, v, s)
		if other, there := texts[s]; there && other != v {
			t.Errorf("%v and %v are both %q", v, other, s)
		}
		texts[s] = v
	}
}
