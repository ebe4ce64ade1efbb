package series_test

import (
	"cmp"
	"math"
	"math/rand"
	"slices"
	"testing"

	"klaxon/api"
	"klaxon/series"
)

func ways() []string { return []string{"last", "min", "max", "sum", "mean", "count"} }

// points is values, each one moment later than the one ahead of it.
func points(l ...api.Value) []api.Point {
	var ps []api.Point
	for i, v := range l {
		ps = append(ps, api.Point{At: int64(i), Value: v})
	}
	return ps
}

func isReduced(t *testing.T, how string, strict bool, l []api.Point, want api.Value) {
	t.Helper()
	if v, err := series.Reduce(how, strict, l...); v != want || err != api.OK {
		t.Fatalf("Reduce(%s, %v, %d points %v): %v, error %d, want %v", how, strict, len(l), l[:min(len(l), 8)], v, err, want)
	}
}

// row is points, and what they come to in each of ways(), not strict and strict.
type row struct {
	name         string
	l            []api.Point
	loose, tight [6]api.Value
}

func alike(v api.Value) [6]api.Value {
	return [6]api.Value{v, v, v, v, v, num(1000)}
}

// P10.1
func TestReduce(t *testing.T) {
	none := [6]api.Value{null, null, null, null, null, num(0)}
	for _, c := range []row{
		{"no point", nil, none, none},
		{"a number", points(num(7)), alike(num(7)), alike(num(7))},
		{"0", points(num(0)), alike(num(0)), alike(num(0))},
		{"the least number", points(num(-maxNum)), alike(num(-maxNum)), alike(num(-maxNum))},
		{"the greatest number", points(num(maxNum)), alike(num(maxNum)), alike(num(maxNum))},
		{"+Inf", points(plus), alike(plus), alike(plus)},
		{"-Inf", points(minus), alike(minus), alike(minus)},
		{"null", points(null), none, [6]api.Value{null, nan, nan, nan, nan, num(1000)}},
		{"NaN", points(nan), none, [6]api.Value{nan, nan, nan, nan, nan, num(1000)}},
		{"nothing but null and NaN", points(null, nan, nan, null), none, [6]api.Value{null, nan, nan, nan, nan, num(4000)}},
		{"the document's", points(num(1000), num(2000), null),
			[6]api.Value{num(2000), num(1000), num(2000), num(3000), num(1500), num(2000)},
			[6]api.Value{null, nan, nan, nan, nan, num(3000)}},
		{"null in between", points(num(5000), null, num(-2000)),
			[6]api.Value{num(-2000), num(-2000), num(5000), num(3000), num(1500), num(2000)},
			[6]api.Value{num(-2000), nan, nan, nan, nan, num(3000)}},
		{"NaN ahead", points(nan, num(1), num(3)),
			[6]api.Value{num(3), num(1), num(3), num(4), num(2), num(2000)},
			[6]api.Value{num(3), nan, nan, nan, nan, num(3000)}},
		{"NaN ahead of null", points(num(3), nan, null),
			[6]api.Value{num(3), num(3), num(3), num(3), num(3), num(1000)},
			[6]api.Value{null, nan, nan, nan, nan, num(3000)}},
		{"null ahead of NaN", points(num(3), null, nan),
			[6]api.Value{num(3), num(3), num(3), num(3), num(3), num(1000)},
			[6]api.Value{nan, nan, nan, nan, nan, num(3000)}},
		{"null and +Inf", points(plus, null),
			[6]api.Value{plus, plus, plus, plus, plus, num(1000)},
			[6]api.Value{null, nan, nan, nan, nan, num(2000)}},
	} {
		for i, how := range ways() {
			isReduced(t, how, false, c.l, c.loose[i])
			isReduced(t, how, true, c.l, c.tight[i])
		}
	}
}

// P10.1: without null and NaN, being strict has no part.
func TestReduceOfWhatIsKnown(t *testing.T) {
	for _, c := range []struct {
		name string
		l    []api.Point
		want [6]api.Value
	}{
		{"rising", points(num(1), num(2), num(4)), [6]api.Value{num(4), num(1), num(4), num(7), num(2), num(3000)}},
		{"falling", points(num(4), num(2), num(-1)), [6]api.Value{num(-1), num(-1), num(4), num(5), num(1), num(3000)}},
		{"the middle one is the greatest", points(num(1), num(9), num(2)), [6]api.Value{num(2), num(1), num(9), num(12), num(4), num(3000)}},
		{"the middle one is the least", points(num(8), num(-9), num(2)), [6]api.Value{num(2), num(-9), num(8), num(1), num(0), num(3000)}},
		{"a mean towards 0, from below", points(num(-1), num(-1), num(-3)), [6]api.Value{num(-3), num(-3), num(-1), num(-5), num(-1), num(3000)}},
		{"a mean towards 0, from above", points(num(1), num(1), num(3)), [6]api.Value{num(3), num(1), num(3), num(5), num(1), num(3000)}},
		{"all the same", points(num(5), num(5)), [6]api.Value{num(5), num(5), num(5), num(10), num(5), num(2000)}},
		{"+Inf is the greatest", points(num(maxNum), plus, num(3)), [6]api.Value{num(3), num(3), plus, plus, plus, num(3000)}},
		{"-Inf is the least", points(num(-maxNum), minus, num(3)), [6]api.Value{num(3), minus, num(3), minus, minus, num(3000)}},
		{"+Inf and -Inf", points(plus, num(1), minus), [6]api.Value{minus, minus, plus, nan, nan, num(3000)}},
		{"-Inf and +Inf", points(minus, plus), [6]api.Value{plus, minus, plus, nan, nan, num(2000)}},
		{"a sum that is just a number", points(num(maxNum-1), num(1)), [6]api.Value{num(1), num(1), num(maxNum - 1), num(maxNum), num(maxNum / 2), num(2000)}},
		{"a sum beyond numbers", points(num(maxNum), num(1)), [6]api.Value{num(1), num(1), num(maxNum), plus, plus, num(2000)}},
		{"a sum below numbers", points(num(-1), num(-maxNum)), [6]api.Value{num(-maxNum), num(-maxNum), num(-1), minus, minus, num(2000)}},
		{"a sum that stays beyond them", points(num(maxNum), num(1), num(-maxNum)), [6]api.Value{num(-maxNum), num(-maxNum), num(maxNum), plus, plus, num(3000)}},
		{"a sum that comes there and there", points(num(maxNum), num(-maxNum), num(1)), [6]api.Value{num(1), num(-maxNum), num(maxNum), num(1), num(0), num(3000)}},
		{"a sum beyond them, and -Inf", points(num(maxNum), num(maxNum), minus), [6]api.Value{minus, minus, num(maxNum), nan, nan, num(3000)}},
	} {
		for i, how := range ways() {
			isReduced(t, how, false, c.l, c.want[i])
			isReduced(t, how, true, c.l, c.want[i])
		}
	}
}

// P10.1: the greatest At counts, wherever it stands, and the last one of it.
func TestReduceLast(t *testing.T) {
	at := func(at int64, v api.Value) api.Point { return api.Point{At: at, Value: v} }
	for _, c := range []struct {
		l            []api.Point
		loose, tight api.Value
	}{
		{[]api.Point{at(5, num(1)), at(9, num(2)), at(7, num(3))}, num(2), num(2)},
		{[]api.Point{at(9, num(1)), at(5, num(2)), at(7, num(3))}, num(1), num(1)},
		{[]api.Point{at(5, num(1)), at(5, num(2)), at(5, num(3))}, num(3), num(3)},
		{[]api.Point{at(5, num(1)), at(9, num(2)), at(9, num(3)), at(1, num(4))}, num(3), num(3)},
		{[]api.Point{at(9, num(3)), at(5, num(1)), at(9, num(2)), at(8, num(4))}, num(2), num(2)},
		{[]api.Point{at(-5, num(1)), at(-9, num(2))}, num(1), num(1)},
		{[]api.Point{at(-1, num(1)), at(0, num(2)), at(-1, num(3))}, num(2), num(2)},
		{[]api.Point{at(math.MinInt64, num(1))}, num(1), num(1)},
		{[]api.Point{at(math.MinInt64, num(1)), at(math.MinInt64, num(2))}, num(2), num(2)},
		{[]api.Point{at(math.MaxInt64, num(1)), at(math.MinInt64, num(2)), at(0, num(3))}, num(1), num(1)},
		{[]api.Point{at(1, num(1)), at(2, null), at(3, nan)}, num(1), nan},
		{[]api.Point{at(1, num(1)), at(3, null), at(2, nan)}, num(1), null},
		{[]api.Point{at(1, num(1)), at(3, num(2)), at(3, null)}, num(2), null},
		{[]api.Point{at(1, num(1)), at(3, nan), at(3, num(2))}, num(2), num(2)},
		{[]api.Point{at(2, plus), at(1, num(2))}, plus, plus},
		{[]api.Point{at(2, minus), at(3, null)}, minus, null},
	} {
		isReduced(t, "last", false, c.l, c.loose)
		isReduced(t, "last", true, c.l, c.tight)
	}
}

// P10.1
func TestReduceOfManyPoints(t *testing.T) {
	full := slices.Repeat(points(num(3)), api.MaxPoints)
	for i, want := range [6]api.Value{num(3), num(3), num(3), num(6000), num(3), num(2000000)} {
		isReduced(t, ways()[i], false, full, want)
		isReduced(t, ways()[i], true, full, want)
	}
	nulls := slices.Repeat(points(null), api.MaxPoints)
	for i, want := range [6]api.Value{null, null, null, null, null, num(0)} {
		isReduced(t, ways()[i], false, nulls, want)
	}
	isReduced(t, "count", true, nulls, num(2000000))
}

func isNotReduced(t *testing.T, how string, l []api.Point, want api.Errno) {
	t.Helper()
	for _, strict := range []bool{false, true} {
		if v, err := series.Reduce(how, strict, l...); v != (api.Value{}) || err != want {
			t.Errorf("Reduce(%q, %v, %d points): %v, error %d, want %d", how, strict, len(l), v, err, want)
		}
	}
}

// P10.1
func TestReduceRefuses(t *testing.T) {
	tooMany := slices.Repeat(points(num(1)), api.MaxPoints+1)
	nulls := slices.Repeat(points(null), api.MaxPoints+1)
	wrong := points(num(1), api.Value{}, num(2))
	for _, how := range ways() {
		isNotReduced(t, how, tooMany, api.ErrMany)
		isNotReduced(t, how, nulls, api.ErrMany)
		isNotReduced(t, how, append(slices.Clone(tooMany), wrong...), api.ErrMany)
		isNotReduced(t, how, append(tooMany[:api.MaxPoints-1:api.MaxPoints-1], wrong[1]), api.ErrValue)
		for _, v := range noValues() {
			isNotReduced(t, how, points(v), api.ErrValue)
			isNotReduced(t, how, points(v, num(1)), api.ErrValue)
			isNotReduced(t, how, points(null, nan, v), api.ErrValue)
		}
	}
	for _, how := range []string{"", "mode", "Last", "LAST", "last ", " last", "minimum", "mi", "avg", "median", "first", "+", "count\x00", "max,min"} {
		isNotReduced(t, how, nil, api.ErrHow)
		isNotReduced(t, how, points(num(1)), api.ErrHow)
		isNotReduced(t, how, points(null), api.ErrHow)
		isNotReduced(t, how, tooMany, api.ErrHow)
		isNotReduced(t, how, wrong, api.ErrHow)
	}
}

// saidPlus is the sum of two that are neither null nor NaN.
func saidPlus(a, b api.Value) api.Value {
	switch {
	case a == nan || a.Kind != api.ValueNum && b.Kind != api.ValueNum && a != b:
		return nan
	case a.Kind != api.ValueNum:
		return a
	case b.Kind != api.ValueNum:
		return b
	case a.N+b.N > maxNum:
		return plus
	case a.N+b.N < -maxNum:
		return minus
	}
	return num(a.N + b.N)
}

// saidReduce is what P10.1 says of values.
func saidReduce(how string, strict bool, l []api.Point) api.Value {
	var left []api.Point
	unknown := false
	for _, p := range l {
		gone := p.Value.Kind == api.ValueNull || p.Value.Kind == api.ValueNaN
		unknown = unknown || gone && strict
		if strict || !gone {
			left = append(left, p)
		}
	}
	n := int64(len(left))
	if how == "count" {
		return num(n * 1000)
	}
	if n == 0 {
		return null
	}
	if how == "last" {
		slices.SortStableFunc(left, func(x, y api.Point) int { return cmp.Compare(x.At, y.At) })
		return left[n-1].Value
	}
	if unknown {
		return nan
	}
	return saidOfKnown(how, left)
}

// saidOfKnown is of values that are neither null nor NaN.
func saidOfKnown(how string, l []api.Point) api.Value {
	height := func(v api.Value) int64 {
		switch v.Kind {
		case api.ValuePlus:
			return maxNum + 1
		case api.ValueMinus:
			return -maxNum - 1
		}
		return v.N
	}
	total, least, greatest := l[0].Value, l[0].Value, l[0].Value
	for _, p := range l[1:] {
		total = saidPlus(total, p.Value)
		if height(p.Value) < height(least) {
			least = p.Value
		}
		if height(p.Value) > height(greatest) {
			greatest = p.Value
		}
	}
	switch {
	case how == "min":
		return least
	case how == "max":
		return greatest
	case how == "mean" && total.Kind == api.ValueNum:
		return num(total.N / int64(len(l)))
	}
	return total
}

// anyPoints is points at few times, in any order.
func anyPoints(r *rand.Rand) []api.Point {
	var l []api.Point
	known := r.Intn(2) == 0
	for range r.Intn(12) {
		p := api.Point{At: int64(r.Intn(6) - 3), Value: anyValue(r)}
		if known {
			p.Value = anyNumber(r)
		}
		l = append(l, p)
	}
	return l
}

// P10.1, P10.6
func TestReduceAgainstTheDocument(t *testing.T) {
	r := rand.New(rand.NewSource(3))
	for range 20000 {
		l, strict := anyPoints(r), r.Intn(2) == 0
		for _, how := range ways() {
			isReduced(t, how, strict, l, saidReduce(how, strict, l))
		}
		mixed := shuffled(r, l)
		for _, how := range []string{"min", "max", "count"} {
			isReduced(t, how, strict, mixed, saidReduce(how, strict, l))
		}
	}
}

// Rule 3
func TestPointsStay(t *testing.T) {
	r := rand.New(rand.NewSource(4))
	for range 500 {
		room := anyPoints(r)
		l, kept := room[:r.Intn(len(room)+1)], slices.Clone(room)
		for _, how := range append(ways(), "none") {
			series.Reduce(how, false, l...)
			series.Reduce(how, true, l...)
		}
		if !slices.Equal(room, kept) {
			t.Fatalf("points became %v, were %v", room, kept)
		}
	}
}
