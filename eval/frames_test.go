package eval_test

import (
	"strconv"
	"testing"

	"klaxon/api"
	"klaxon/eval"
	"klaxon/math"
	"klaxon/series"
	"klaxon/value"
)

// P13.2: the document's example.
func TestFramesOfTheExample(t *testing.T) {
	nodes := []api.Node{query("A"), reduce("B", "A", "last"), threshold("C", "B", "gt", num(1000))}
	answers := []api.Answer{answer("A", from(at(num(2000)), "h", "1"), from(at(num(0)), "h", "2"))}
	frames(t, "the example", "C", nodes, answers,
		frame("A", of(num(2000), "h", "1"), of(num(0), "h", "2")),
		frame("B", of(num(2000), "h", "1"), of(num(0), "h", "2")),
		frame("C", of(yes, "h", "1"), of(no, "h", "2")))
}

// P13.2: a query's frame has the last point of each Points, whatever it is, by
// rising Labels.
func TestFramesOfAQuery(t *testing.T) {
	nodes := []api.Node{query("A")}
	late := []api.Point{{At: 5, Value: num(1)}, {At: 9, Value: num(2)}, {At: 7, Value: num(3)}}
	twice := []api.Point{{At: 9, Value: num(1)}, {At: 9, Value: num(2)}, {At: -9, Value: num(3)}}
	for _, c := range []struct {
		name   string
		points []api.Points
		want   []api.Series
	}{
		{"no Points", nil, nil},
		{"no point", []api.Points{from(nil, "h", "1")}, []api.Series{of(null, "h", "1")}},
		{"no point, no labels", []api.Points{{}}, []api.Series{of(null)}},
		{"one point, no labels", []api.Points{from(at(num(7)))}, []api.Series{of(num(7))}},
		{"the greatest At", []api.Points{from(late, "h", "1")}, []api.Series{of(num(2), "h", "1")}},
		{"of two of one At the last", []api.Points{from(twice, "h", "1")}, []api.Series{of(num(2), "h", "1")}},
		{"a last one that is null", []api.Points{from(at(num(1), null), "h", "1")}, []api.Series{of(null, "h", "1")}},
		{"a last one that is NaN", []api.Points{from(at(num(1), nan), "h", "1")}, []api.Series{of(nan, "h", "1")}},
		{"beyond numbers", []api.Points{from(at(plus)), from(at(minus), "a", "1")}, []api.Series{of(plus), of(minus, "a", "1")}},
		{"one that is null ahead", []api.Points{from(at(null, num(1)), "h", "1")}, []api.Series{of(num(1), "h", "1")}},
		{"falling Labels", []api.Points{from(at(num(3)), "h", "3"), from(at(num(2)), "h", "2"), from(nil, "b", "9"), from(at(num(1)))},
			[]api.Series{of(num(1)), of(null, "b", "9"), of(num(2), "h", "2"), of(num(3), "h", "3")}},
	} {
		frames(t, c.name, "A", nodes, []api.Answer{answer("A", c.points...)}, frame("A", c.want...))
	}
}

// P13.1
func TestTheFirstAnswerCounts(t *testing.T) {
	nodes := []api.Node{query("A"), query("B"), reduce("C", "A", "sum"), expr("D", "$C + $B")}
	one, two, other := answer("A", from(at(num(1)))), answer("A", from(at(num(2)))), answer("B", from(at(num(100))))
	for _, c := range []struct {
		name    string
		answers []api.Answer
		want    int64
	}{
		{"one each", []api.Answer{one, other}, 101},
		{"two, the one first", []api.Answer{one, two, other}, 101},
		{"two, the other first", []api.Answer{two, one, other}, 102},
		{"two apart", []api.Answer{two, other, one, answer("B", from(at(num(500))))}, 102},
		{"behind those of refs that are no query's", []api.Answer{answer("C", from(at(num(50)))), answer("D"), answer(""), failed("Z"), answer("AA", from(at(num(9)))), answer("a", from(at(num(9)))), other, two}, 102},
		{"ahead of one that failed", []api.Answer{one, failed("A"), other, failed("B")}, 101},
		{"ahead of one that may not be", []api.Answer{one, answer("A", from(at(num(1)), "", "")), other}, 101},
	} {
		tells(t, c.name, "C", nodes, c.answers, of(num(c.want-100)))
		tells(t, c.name, "D", nodes, c.answers, of(num(c.want)))
	}
	refuses(t, "behind one that failed", api.ErrQuery, "D", nodes, failed("A"), one, other)
	refuses(t, "behind one that may not be", api.ErrLabel, "D", nodes, other, answer("A", from(at(num(1)), "", "")), one)
	tells(t, "behind one without Points", "A", nodes, []api.Answer{answer("A"), one})
	tells(t, "behind one without Points", "C", nodes, []api.Answer{answer("A"), one})
}

// P13.2: a query without an answer, or with one that failed, whatever its Points
// are.
func TestFramesOfAQueryThatFailed(t *testing.T) {
	nodes := []api.Node{query("A"), reduce("B", "A", "count"), expr("C", "$A"), threshold("D", "A", "lt", num(0))}
	good := from(at(num(1)), "h", "1")
	for _, ref := range []string{"A", "B", "C", "D"} {
		refuses(t, "no answer", api.ErrQuery, ref, nodes)
		refuses(t, "answers to others", api.ErrQuery, ref, nodes, answer("B", good), answer("", good), answer("a", good), answer("AA", good))
		refuses(t, "failed", api.ErrQuery, ref, nodes, failed("A"))
		refuses(t, "failed, with Points", api.ErrQuery, ref, nodes, failed("A", good))
		refuses(t, "failed, with Points of one label set", api.ErrQuery, ref, nodes, failed("A", good, good))
		refuses(t, "failed, with labels that may not be", api.ErrQuery, ref, nodes, failed("A", from(nil, "", "")))
		refuses(t, "failed, with a point that may not be", api.ErrQuery, ref, nodes, failed("A", from(at(api.Value{}))))
	}
}

// P13.2: a reduce of a query goes by all points.
func TestFramesOfAReduceOfAQuery(t *testing.T) {
	whole := from(at(num(3000), num(1000), num(2000)), "h", "1")
	holes := from(at(num(3000), null, num(1000), nan), "h", "2")
	none := from(nil, "h", "3")
	beyond := from(at(plus, num(5), minus), "h", "4")
	unknown := from(at(nan, null), "h", "5")
	late := from([]api.Point{{At: 8, Value: num(1000)}, {At: 9, Value: num(4000)}, {At: 1, Value: num(7000)}}, "h", "6")
	for _, c := range []struct {
		how    string
		strict bool
		want   [6]api.Value
	}{
		{"last", false, [6]api.Value{num(2000), num(1000), null, minus, null, num(4000)}},
		{"last", true, [6]api.Value{num(2000), nan, null, minus, null, num(4000)}},
		{"min", false, [6]api.Value{num(1000), num(1000), null, minus, null, num(1000)}},
		{"min", true, [6]api.Value{num(1000), nan, null, minus, nan, num(1000)}},
		{"max", false, [6]api.Value{num(3000), num(3000), null, plus, null, num(7000)}},
		{"max", true, [6]api.Value{num(3000), nan, null, plus, nan, num(7000)}},
		{"sum", false, [6]api.Value{num(6000), num(4000), null, nan, null, num(12000)}},
		{"sum", true, [6]api.Value{num(6000), nan, null, nan, nan, num(12000)}},
		{"mean", false, [6]api.Value{num(2000), num(2000), null, nan, null, num(4000)}},
		{"mean", true, [6]api.Value{num(2000), nan, null, nan, nan, num(4000)}},
		{"count", false, [6]api.Value{num(3000), num(2000), num(0), num(3000), num(0), num(3000)}},
		{"count", true, [6]api.Value{num(3000), num(4000), num(0), num(3000), num(2000), num(3000)}},
	} {
		n := reduce("B", "A", c.how)
		n.Strict = c.strict
		var want []api.Series
		for i, v := range c.want {
			want = append(want, of(v, "h", strconv.Itoa(i+1)))
		}
		what := c.how + " " + strconv.FormatBool(c.strict)
		tells(t, what, "B", []api.Node{n, query("A")}, []api.Answer{answer("A", late, unknown, whole, beyond, holes, none)}, want...)
		tells(t, what+" of no Points", "B", []api.Node{n, query("A")}, []api.Answer{answer("A")})
	}
}

// P13.2: a reduce of what is no query has one value of each series.
func TestFramesOfAnotherReduce(t *testing.T) {
	values := []api.Value{num(2500), num(0), num(-1000), plus, minus, null, nan}
	var points []api.Points
	for i, v := range values {
		// An older point that must have no part any more.
		points = append(points, from(at(num(777000), v), "h", strconv.Itoa(i)))
	}
	inputs := []api.Node{expr("B", "$A"), strictly("B", "A", "last")}
	for _, input := range inputs {
		for _, strict := range []bool{false, true} {
			for _, how := range waysToReduce() {
				n := reduce("C", "B", how)
				n.Strict = strict
				var want []api.Series
				for i, v := range values {
					want = append(want, of(saidAlone(how, strict, v), "h", strconv.Itoa(i)))
				}
				tells(t, how, "C", []api.Node{n, input, query("A")}, []api.Answer{answer("A", points...)}, want...)
				tells(t, how+" of nothing", "C", []api.Node{n, input, query("A")}, []api.Answer{answer("A")})
			}
		}
	}
}

// saidAlone is what a way to reduce makes of one value (P10.1).
func saidAlone(how string, strict bool, v api.Value) api.Value {
	unknown := v == null || v == nan
	switch {
	case how == "count" && unknown && !strict:
		return num(0)
	case how == "count":
		return num(1000)
	case unknown && !strict:
		return null
	case unknown && how != "last":
		return nan
	}
	return v
}

// P13.2: a reduce of a reduce has the value of that alone, not its points; and of
// a threshold, a math, a number.
func TestFramesOfAReduceOfEachKind(t *testing.T) {
	nodes := []api.Node{
		query("A"), reduce("B", "A", "sum"), reduce("C", "B", "count"), reduce("D", "B", "mean"),
		threshold("E", "A", "gt", num(0)), reduce("F", "E", "sum"), expr("G", "$A * 2"), reduce("H", "G", "max"),
		expr("I", "null"), strictly("J", "I", "min"), strictly("K", "C", "last"), reduce("L", "K", "count"),
	}
	answers := []api.Answer{answer("A", from(at(num(1000), num(2000)), "h", "1"), from(nil, "h", "2"))}
	for _, c := range []struct {
		ref  string
		want []api.Series
	}{
		{"B", []api.Series{of(num(3000), "h", "1"), of(null, "h", "2")}},
		{"C", []api.Series{of(num(1000), "h", "1"), of(num(0), "h", "2")}},
		{"D", []api.Series{of(num(3000), "h", "1"), of(null, "h", "2")}},
		{"F", []api.Series{of(yes, "h", "1"), of(null, "h", "2")}},
		{"H", []api.Series{of(num(4000), "h", "1"), of(null, "h", "2")}},
		{"J", []api.Series{of(nan)}},
		{"K", []api.Series{of(num(1000), "h", "1"), of(num(0), "h", "2")}},
		{"L", []api.Series{of(num(1000), "h", "1"), of(num(1000), "h", "2")}},
	} {
		tells(t, c.ref, c.ref, nodes, answers, c.want...)
	}
}

// P13.2: a math of one ref, of several, of none.
func TestFramesOfAMath(t *testing.T) {
	answers := []api.Answer{
		answer("A", from(at(num(9000), num(2000)), "h", "2"), from(at(num(1000)), "h", "1")),
		answer("B", from(at(num(10000), num(30000)), "d", "x", "h", "1"), from(at(null), "d", "y", "h", "1"), from(at(num(7000)), "d", "x", "h", "3")),
		answer("C", from(at(num(500)))),
		answer("D"),
	}
	for _, c := range []struct {
		text string
		want []api.Series
	}{
		{"$A", []api.Series{of(num(1000), "h", "1"), of(num(2000), "h", "2")}},
		{" - $A ", []api.Series{of(num(-1000), "h", "1"), of(num(-2000), "h", "2")}},
		{"$A > 1", []api.Series{of(no, "h", "1"), of(yes, "h", "2")}},
		{"$A + $A", []api.Series{of(num(2000), "h", "1"), of(num(4000), "h", "2")}},
		{"$B - $A", []api.Series{of(num(29000), "d", "x", "h", "1"), of(null, "d", "y", "h", "1")}},
		{"$M - $A", []api.Series{of(num(19000), "d", "x", "h", "1"), of(null, "d", "y", "h", "1")}},
		{"is_null($B)", []api.Series{of(no, "d", "x", "h", "1"), of(no, "d", "x", "h", "3"), of(yes, "d", "y", "h", "1")}},
		{"$A * $C + $C", []api.Series{of(num(1000), "h", "1"), of(num(1500), "h", "2")}},
		{"$C", []api.Series{of(num(500))}},
		{"2 * 3", []api.Series{of(num(6000))}},
		{"null", []api.Series{of(null)}},
		{"0 / 0", []api.Series{of(nan)}},
		{"-1 / 0", []api.Series{of(minus)}},
		{"$D", nil},
		{"$D + 1", nil},
		{"$A + $D", nil},
		{"!$D", nil},
	} {
		nodes := []api.Node{query("A"), query("B"), query("C"), query("D"), reduce("M", "B", "mean"), expr("X", c.text)}
		tells(t, c.text, "X", nodes, answers, c.want...)
	}
	tells(t, "a math alone", "A", []api.Node{expr("A", "1.5")}, nil, of(num(1500)))
}

// P13.2: an error of a math is the node's.
func TestFramesOfAMathThatFails(t *testing.T) {
	nodes := []api.Node{query("A"), query("B"), expr("C", "$A + $B"), reduce("D", "C", "count"), threshold("E", "C", "gt", num(0)), expr("F", "1 + $C")}
	twice := []api.Answer{
		answer("A", from(at(num(1)), "h", "1"), from(at(num(1)), "d", "1")),
		answer("B", from(at(num(1)), "d", "1", "h", "1")),
	}
	one := from(at(num(1)))
	many := []api.Answer{answer("A", append(manyPoints(101, "a"), one)...), answer("B", append(manyPoints(99, "b"), one)...)}
	for _, ref := range []string{"C", "D", "E", "F"} {
		refuses(t, "two of one label set", api.ErrThere, ref, nodes, twice...)
		refuses(t, "too many series", api.ErrMany, ref, nodes, many...)
	}
	for _, ref := range []string{"A", "B"} {
		for _, answers := range [][]api.Answer{twice, many} {
			if _, err := eval.Frames(ref, nodes, answers...); err != api.OK {
				t.Errorf("%s alone: error %d", ref, err)
			}
		}
	}
}

// P13.2: a threshold of each way, with values on, above and below its bounds.
func TestFramesOfAThreshold(t *testing.T) {
	values := []api.Value{num(999), num(1000), num(1001), num(1999), num(2000), num(2001), null, nan, plus, minus}
	for _, c := range []struct {
		name string
		n    api.Node
		want string // of each value: y, n, or 0 for null
	}{
		{"gt", threshold("B", "A", "gt", num(1000)), "nnyyyy0nyn"},
		{"lt", threshold("B", "A", "lt", num(1000)), "ynnnnn0nny"},
		{"in", threshold("B", "A", "in", num(1000), num(2000)), "nnyynn0nnn"},
		{"out", threshold("B", "A", "out", num(1000), num(2000)), "ynnnny0nyy"},
		{"gt +Inf", threshold("B", "A", "gt", plus), "nnnnnn0nnn"},
		{"gt -Inf", threshold("B", "A", "gt", minus), "yyyyyy0nyn"},
		{"lt +Inf", threshold("B", "A", "lt", plus), "yyyyyy0nny"},
		{"lt -Inf", threshold("B", "A", "lt", minus), "nnnnnn0nnn"},
		{"in the whole", threshold("B", "A", "in", minus, plus), "yyyyyy0nnn"},
		{"out of the whole", threshold("B", "A", "out", minus, plus), "nnnnnn0nnn"},
		{"in of bounds the other way round", threshold("B", "A", "in", num(2000), num(1000)), "nnnnnn0nnn"},
		{"out of bounds the other way round", threshold("B", "A", "out", num(2000), num(1000)), "yyyyyy0nyy"},
		{"in of one bound", threshold("B", "A", "in", num(2000), num(2000)), "nnnnnn0nnn"},
		{"out of one bound", threshold("B", "A", "out", num(2000), num(2000)), "yyyyny0nyy"},
		{"gt 0", threshold("B", "A", "gt", num(0)), "yyyyyy0nyn"},
	} {
		var points []api.Points
		var want []api.Series
		for i, v := range values {
			points = append(points, from(at(num(1500), v), "h", strconv.Itoa(i)))
			want = append(want, of(map[byte]api.Value{'y': yes, 'n': no, '0': null}[c.want[i]], "h", strconv.Itoa(i)))
		}
		answers := []api.Answer{answer("A", points...)}
		tells(t, c.name, "B", []api.Node{c.n, query("A")}, answers, want...)
		over := c.n
		over.Input = "C"
		tells(t, c.name+" over a reduce", "B", []api.Node{over, strictly("C", "A", "last"), query("A")}, answers, want...)
		tells(t, c.name+" over a math", "B", []api.Node{over, expr("C", "$A"), query("A")}, answers, want...)
		tells(t, c.name+" over nothing", "B", []api.Node{c.n, query("A")}, []api.Answer{answer("A")})
	}
	tells(t, "of no labels", "B", []api.Node{threshold("B", "A", "lt", num(5)), expr("A", "1 / 1000")}, nil, of(yes))
	tells(t, "of a threshold", "C", []api.Node{expr("A", "3"), threshold("B", "A", "gt", num(1)), threshold("C", "B", "lt", num(1000))}, nil, of(no))
}

// P13.2: labels, points and Points that may not be.
func TestFramesRefusesAnswers(t *testing.T) {
	nodes := []api.Node{query("A"), reduce("B", "A", "count"), expr("C", "$B"), threshold("D", "C", "gt", num(0))}
	good := from(at(num(1)), "h", "1")
	for _, ref := range []string{"A", "B", "C", "D"} {
		for _, set := range noSets() {
			bad := api.Points{Labels: set, Points: at(num(1))}
			refuses(t, "labels", api.ErrLabel, ref, nodes, answer("A", bad))
			refuses(t, "labels", api.ErrLabel, ref, nodes, answer("A", good, bad))
			refuses(t, "labels", api.ErrLabel, ref, nodes, answer("A", bad, good, good))
		}
		for _, v := range noValues() {
			refuses(t, "a value", api.ErrValue, ref, nodes, answer("A", from(at(v))))
			refuses(t, "a value ahead", api.ErrValue, ref, nodes, answer("A", good, from(at(v, num(1)), "h", "2")))
			refuses(t, "a value behind", api.ErrValue, ref, nodes, answer("A", good, good, from(at(num(1), v), "h", "2")))
		}
		refuses(t, "one label set", api.ErrThere, ref, nodes, answer("A", good, good))
		refuses(t, "one label set", api.ErrThere, ref, nodes, answer("A", good, from(nil, "h", "2"), from(at(num(2)), "h", "1")))
		refuses(t, "no labels twice", api.ErrThere, ref, nodes, answer("A", api.Points{}, api.Points{Labels: []api.Label{}}))
	}
}

// P13.2: MaxSeries and MaxPoints, and one more.
func TestFramesOfAsManyAsThereMayBe(t *testing.T) {
	nodes := []api.Node{query("A"), reduce("B", "A", "count"), expr("C", "$A + $B"), threshold("D", "C", "gt", num(-1))}
	full := answer("A", manyPoints(api.MaxSeries, "a")...)
	for _, ref := range []string{"A", "B", "C", "D"} {
		got, err := eval.Frames(ref, nodes, full)
		if err != api.OK || len(got[len(got)-1].Series) != api.MaxSeries {
			t.Fatalf("%s: error %d", ref, err)
		}
		refuses(t, "one Points more", api.ErrMany, ref, nodes, answer("A", manyPoints(api.MaxSeries+1, "a")...))
		refuses(t, "one more, of which two are the same", api.ErrThere, ref, nodes, answer("A", append(manyPoints(api.MaxSeries, "a"), manyPoints(1, "a")...)...))
	}
	points := make([]api.Point, api.MaxPoints)
	for i := range points {
		points[i] = api.Point{At: int64(-i), Value: num(1)}
	}
	tells(t, "MaxPoints", "B", nodes, []api.Answer{answer("A", from(points, "a", "1"), from(points))}, of(num(2000000)), of(num(2000000), "a", "1"))
	refuses(t, "one point more", api.ErrMany, "B", nodes, answer("A", from(points), from(append(points, api.Point{Value: num(1)}), "a", "1")))
}

// P13.2: of one node, Reduce's error of the first Points that has one, then
// Sort's.
func TestFramesTellsTheFirstErrorOfANode(t *testing.T) {
	nodes := []api.Node{query("A"), reduce("B", "A", "min")}
	good := from(at(num(1)), "h", "1")
	label, wrong := from(at(num(1)), "", ""), from(at(api.Value{}), "h", "1")
	long := from(make([]api.Point, api.MaxPoints+1), "h", "1")
	for _, c := range []struct {
		name string
		want api.Errno
		l    []api.Points
	}{
		{"a point, then labels", api.ErrValue, []api.Points{wrong, label}},
		{"labels, then a point", api.ErrValue, []api.Points{label, good, wrong}},
		{"one label set, then a point", api.ErrValue, []api.Points{good, good, wrong}},
		{"both of one Points", api.ErrValue, []api.Points{from(at(api.Value{}), "", "")}},
		{"a point, then too many", api.ErrValue, []api.Points{good, wrong, long}},
		{"too many, then a point", api.ErrMany, []api.Points{good, long, wrong}},
		{"labels, then too many", api.ErrMany, []api.Points{label, long}},
		{"too many points that may not be", api.ErrMany, []api.Points{long}},
		{"one label set, then labels", api.ErrLabel, []api.Points{good, good, label}},
		{"too many Points, then labels", api.ErrLabel, append(manyPoints(api.MaxSeries+1, "a"), label)},
		{"too many Points, then a point", api.ErrValue, append(manyPoints(api.MaxSeries+1, "a"), wrong)},
	} {
		refuses(t, c.name, c.want, "A", nodes, answer("A", c.l...))
		refuses(t, c.name, c.want, "B", nodes, answer("A", c.l...))
	}
}

// P13.2: of several nodes that have an error, that of the one that is reckoned
// first, in whatever order nodes and answers are handed in.
func TestFramesTellsTheErrorOfTheFirstNode(t *testing.T) {
	good := from(at(num(1)), "h", "1")
	label, point, there := from(nil, "", ""), from(at(api.Value{})), []api.Points{good, good}
	nodes := []api.Node{query("A"), query("B"), query("D"), expr("C", "$A + $B + $D")}
	late := []api.Node{query("Z"), reduce("Y", "Z", "max"), query("X"), expr("C", "$X + $Y")}
	two := answer("A", from(at(num(1)), "h", "1"), from(at(num(1)), "d", "1"))
	joined := []api.Node{query("A"), query("B"), expr("C", "$A + $B"), query("D"), expr("E", "$C + $D")}
	for _, c := range []struct {
		name    string
		want    api.Errno
		ref     string
		nodes   []api.Node
		answers []api.Answer
	}{
		{"A's labels", api.ErrLabel, "C", nodes, []api.Answer{answer("A", label), answer("B", point), answer("D", there...)}},
		{"A's point", api.ErrValue, "C", nodes, []api.Answer{answer("A", point), answer("B", label), answer("D", there...)}},
		{"A's labels twice", api.ErrThere, "C", nodes, []api.Answer{answer("A", there...), answer("B", label), failed("D")}},
		{"A failed", api.ErrQuery, "C", nodes, []api.Answer{failed("A"), answer("B", label), answer("D", point)}},
		{"A has none", api.ErrQuery, "C", nodes, []api.Answer{answer("B", label), answer("D", point)}},
		{"B's labels", api.ErrLabel, "C", nodes, []api.Answer{answer("A", good), answer("B", label), failed("D")}},
		{"D's point", api.ErrValue, "C", nodes, []api.Answer{answer("A", good), answer("B", good), answer("D", point)}},
		{"X is ahead of Z", api.ErrQuery, "C", late, []api.Answer{answer("Z", label)}},
		{"X is ahead of Z, though Y is needed of it", api.ErrValue, "C", late, []api.Answer{failed("Z"), answer("X", point)}},
		{"Z alone", api.ErrLabel, "C", late, []api.Answer{answer("Z", label), answer("X", good)}},
		{"a math is ahead of a query of a greater ref", api.ErrThere, "E", joined, []api.Answer{two, answer("B", from(at(num(1)), "d", "1", "h", "1")), failed("D")}},
		{"a math is behind a query of a lesser ref", api.ErrQuery, "E", joined, []api.Answer{two, answer("D", good)}},
	} {
		for _, l := range permutations(c.nodes) {
			refuses(t, c.name, c.want, c.ref, l, c.answers...)
		}
		for _, l := range permutations(c.answers) {
			refuses(t, c.name, c.want, c.ref, c.nodes, l...)
		}
	}
}

// P13.2: dag.Check's error of ref and nodes comes ahead of all.
func TestFramesRefusesNodes(t *testing.T) {
	a, b := query("A"), reduce("B", "A", "mean")
	good := answer("A", from(at(num(1)), "h", "1"))
	var many []api.Node
	for i := range api.MaxNodes + 1 {
		many = append(many, query("Q"+strconv.Itoa(100+i)))
	}
	for _, c := range []struct {
		name  string
		want  api.Errno
		ref   string
		nodes []api.Node
	}{
		{"no node", api.ErrNone, "A", nil},
		{"no node, no ref", api.ErrNone, "", []api.Node{}},
		{"no ref", api.ErrNone, "", []api.Node{a, b}},
		{"no node's ref", api.ErrNone, "C", []api.Node{a, b}},
		{"a source's name", api.ErrNone, "of A", []api.Node{a, b}},
		{"an input that is none", api.ErrNone, "A", []api.Node{a, reduce("B", "C", "mean")}},
		{"a math of what is none", api.ErrNone, "A", []api.Node{a, expr("B", "$A + $C")}},
		{"too many", api.ErrMany, "Q100", many},
		{"a node of no kind", api.ErrNode, "A", []api.Node{a, {Ref: "B"}}},
		{"a node of no kind that is needed", api.ErrNode, "B", []api.Node{a, {Ref: "B", Kind: api.NodeThreshold + 1}}},
		{"a query of no source", api.ErrNode, "A", []api.Node{{Ref: "A", Kind: api.NodeQuery}}},
		{"a way that is none", api.ErrNode, "B", []api.Node{a, reduce("B", "A", "first")}},
		{"a threshold's way that is none", api.ErrNode, "B", []api.Node{a, threshold("B", "A", "eq", num(1))}},
		{"a bound that is null", api.ErrNode, "B", []api.Node{a, threshold("B", "A", "gt", null)}},
		{"a bound that is no value", api.ErrNode, "B", []api.Node{a, threshold("B", "A", "in", num(1), api.Value{})}},
		{"a bound too many", api.ErrNode, "B", []api.Node{a, threshold("B", "A", "gt", num(1), num(2))}},
		{"a text that is no tree", api.ErrNode, "B", []api.Node{a, expr("B", "$A +")}},
		{"two of one ref", api.ErrThere, "A", []api.Node{a, b, a}},
		{"a circle", api.ErrCycle, "B", []api.Node{expr("A", "$B"), expr("B", "$A")}},
		{"a circle of what is not needed", api.ErrCycle, "A", []api.Node{a, expr("B", "$C"), reduce("C", "B", "sum")}},
	} {
		refuses(t, c.name, c.want, c.ref, c.nodes)
		refuses(t, c.name, c.want, c.ref, c.nodes, good)
		refuses(t, c.name, c.want, c.ref, c.nodes, failed("A"), answer("Q100", from(nil, "", "")))
	}
}

// P13.2: the frames stand in dag.Order, and only those that are needed.
func TestFramesInOrder(t *testing.T) {
	nodes := []api.Node{
		query("Z"), query("M"), reduce("B", "Z", "sum"), expr("A", "$B + $M"), threshold("C", "A", "gt", num(0)),
		query("Other"), expr("D", "$C + $Other"), expr("Alone", "7"),
	}
	answers := []api.Answer{
		answer("Z", from(at(num(1000), num(3000)), "h", "1")), answer("M", from(at(num(10000)))), answer("Other", from(at(num(1)), "h", "1")),
	}
	z, m, b := frame("Z", of(num(3000), "h", "1")), frame("M", of(num(10000))), frame("B", of(num(4000), "h", "1"))
	a, c := frame("A", of(num(14000), "h", "1")), frame("C", of(yes, "h", "1"))
	for _, l := range [][]api.Node{nodes, {nodes[7], nodes[6], nodes[5], nodes[4], nodes[3], nodes[2], nodes[1], nodes[0]}} {
		frames(t, "Z", "Z", l, answers, z)
		frames(t, "M", "M", l, answers, m)
		frames(t, "B", "B", l, answers, z, b)
		frames(t, "A", "A", l, answers, m, z, b, a)
		frames(t, "C", "C", l, answers, m, z, b, a, c)
		frames(t, "D", "D", l, answers, m, frame("Other", of(num(1), "h", "1")), z, b, a, c, frame("D", of(num(1001), "h", "1")))
		frames(t, "Alone", "Alone", l, answers, frame("Alone", of(num(7000))))
		frames(t, "Alone, without an answer", "Alone", l, nil, frame("Alone", of(num(7000))))
	}
}

// P13.2: as many nodes as there may be, each on the one ahead of it.
func TestFramesOfAChain(t *testing.T) {
	nodes := []api.Node{query("N0")}
	for i := 1; i < api.MaxNodes; i++ {
		nodes = append(nodes, expr("N"+strconv.Itoa(i), "$N"+strconv.Itoa(i-1)+" * 2"))
	}
	got, err := eval.Frames("N15", nodes, answer("N0", from(at(num(1000)), "h", "1")))
	if err != api.OK || len(got) != api.MaxNodes {
		t.Fatalf("%d frames, error %d", len(got), err)
	}
	for i, f := range got {
		if f.Ref != "N"+strconv.Itoa(i) || !sameSeries(f.Series, []api.Series{of(num(1000<<i), "h", "1")}) {
			t.Fatalf("%d: %v", i, f)
		}
	}
}

// P13.2: a query that is not needed may have failed, or have no answer.
func TestFramesWithoutWhatIsNotNeeded(t *testing.T) {
	nodes := []api.Node{query("A"), query("B"), reduce("C", "A", "sum"), expr("D", "$B + $C")}
	good := answer("A", from(at(num(1), num(2)), "h", "1"))
	want := []api.Frame{frame("A", of(num(2), "h", "1")), frame("C", of(num(3), "h", "1"))}
	frames(t, "no answer", "C", nodes, []api.Answer{good}, want...)
	frames(t, "failed", "C", nodes, []api.Answer{failed("B"), good}, want...)
	frames(t, "may not be", "C", nodes, []api.Answer{answer("B", from(at(api.Value{}), "", "")), good}, want...)
	refuses(t, "needed", api.ErrQuery, "D", nodes, good)
}

// P13.2: each kind's frame is what the layers below say of its parts.
func TestFramesByTheLayersBelow(t *testing.T) {
	nodes := []api.Node{query("A"), query("B"), expr("C", "-$A / ($B - 3) || $A != $B")}
	answers := []api.Answer{answer("A", manyPoints(50, "h")...), answer("B", manyPoints(30, "h")...)}
	got, err := eval.Frames("C", nodes, answers...)
	if err != api.OK || len(got) != 3 {
		t.Fatalf("%d frames, error %d", len(got), err)
	}
	x, _, _ := math.Parse(nodes[2].Text)
	want, err := math.Eval(x, got[0], got[1])
	if err != api.OK || !sameSeries(got[2].Series, want) || len(want) != 30 {
		t.Errorf("%v, want %v", got[2].Series, want)
	}
	for _, f := range got {
		if sorted, err := series.Sort(f.Series...); err != api.OK || !sameSeries(sorted, f.Series) {
			t.Errorf("%s is no frame: error %d", f.Ref, err)
		}
		for _, s := range f.Series {
			if value.Check(s.Value) != api.OK {
				t.Errorf("%s has %v", f.Ref, s)
			}
		}
	}
}
