package series_test

import (
	"math/rand"
	"slices"
	"testing"

	"klaxon/api"
	"klaxon/series"
	"klaxon/value"
)

func opsOfOne() []string {
	return []string{"-", "abs", "floor", "!", "is_null", "is_nan", "is_inf", "is_number"}
}

func opsOfTwo() []string {
	return []string{"+", "-", "*", "/", "==", "!=", "<", "<=", ">", ">=", "&&", "||"}
}

// noOps is what is an operation of no number of operands.
func noOps() []string {
	return []string{"", "%", "^", "=", "<>", "=>", "&", "|", "|||", "--", "- ", " -", "Abs", "ABS", "ceil", "is_inf ", "min", "last", "not", "\x00"}
}

// P10.3
func TestMap(t *testing.T) {
	l := []api.Series{
		{Labels: list("b", "1"), Value: num(-1500)},
		{Labels: list("a", "1", "b", "1"), Value: null},
		{Labels: list("a", "1"), Value: nan},
		{Value: minus},
		{Labels: list("b", "0"), Value: num(0)},
	}
	for op, want := range map[string][5]api.Value{
		"-":         {plus, nan, null, num(0), num(1500)},
		"abs":       {plus, nan, null, num(0), num(1500)},
		"floor":     {minus, nan, null, num(0), num(-2000)},
		"!":         {num(0), num(0), null, num(1000), num(0)},
		"is_null":   {num(0), num(0), num(1000), num(0), num(0)},
		"is_nan":    {num(0), num(1000), num(0), num(0), num(0)},
		"is_inf":    {num(1000), num(0), num(0), num(0), num(0)},
		"is_number": {num(0), num(0), num(0), num(1000), num(1000)},
	} {
		got, err := series.Map(op, l...)
		is(t, "Map "+op, got, err, []api.Series{
			{Value: want[0]},
			{Labels: list("a", "1"), Value: want[1]},
			{Labels: list("a", "1", "b", "1"), Value: want[2]},
			{Labels: list("b", "0"), Value: want[3]},
			{Labels: list("b", "1"), Value: want[4]},
		})
	}
}

// P10.3
func TestMapOfNoneAndOfMany(t *testing.T) {
	full := many(api.MaxSeries, "a")
	for _, op := range opsOfOne() {
		got, err := series.Map(op)
		is(t, "Map "+op+" of no series", got, err, nil)
		got, err = series.Map(op, full...)
		if err != api.OK || len(got) != api.MaxSeries {
			t.Errorf("Map %s of MaxSeries series: %d, error %d", op, len(got), err)
		}
	}
}

// P10.3: an operation that is none is refused of no series too, but Sort's
// errors come ahead.
func TestMapRefuses(t *testing.T) {
	for _, op := range append(noOps(), "+", "*", "/", "==", "!=", "<", "<=", ">", ">=", "&&", "||") {
		for _, l := range [][]api.Series{nil, {of(1)}, {of(1, "a", "1"), of(2, "b", "1")}, many(api.MaxSeries, "a")} {
			got, err := series.Map(op, l...)
			refuses(t, "Map "+op, got, err, api.ErrArg)
		}
	}
	for _, c := range refused() {
		for _, op := range []string{"-", "is_null", "none", "+", ""} {
			got, err := series.Map(op, c.l...)
			refuses(t, "Map "+op+" of "+c.name, got, err, c.want)
		}
	}
}

// P10.3
func TestMapAgainstTheDocument(t *testing.T) {
	r := rand.New(rand.NewSource(5))
	for range 1000 {
		l := anyFrame(r, r.Intn(20), 6)
		for _, op := range opsOfOne() {
			done := slices.Clone(l)
			for i, s := range l {
				done[i].Value, _ = value.Do(op, s.Value)
			}
			want, _ := saidFrame(done)
			got, err := series.Map(op, l...)
			is(t, "Map "+op, got, err, want)
		}
	}
}
