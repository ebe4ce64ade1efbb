package eval_test

import (
	"testing"

	"klaxon/api"
)

// P13.3: the document's example.
func TestEvalOfTheExample(t *testing.T) {
	nodes := []api.Node{query("A"), reduce("B", "A", "last"), threshold("C", "B", "gt", num(1000))}
	answers := []api.Answer{answer("A", from(at(num(0)), "h", "2"), from(at(num(2000)), "h", "1"))}
	results(t, "the example", "C", nodes, answers,
		api.Result{Labels: list("h", "1"), Kind: api.ResAlert, Value: yes},
		api.Result{Labels: list("h", "2"), Kind: api.ResNormal, Value: no})
	results(t, "A failed", "C", nodes, []api.Answer{failed("A")}, api.Result{Kind: api.ResError, Value: null})
	results(t, "no series", "C", nodes, []api.Answer{answer("A")}, api.Result{Kind: api.ResNoData, Value: null})
}

// P13.3: each value, of a condition of each kind.
func TestEvalOfEachValue(t *testing.T) {
	answers := []api.Answer{answer("A",
		from(at(num(1)), "h", "5"), from(at(num(0)), "h", "1"), from(at(null), "h", "3"), from(at(nan), "h", "2"),
		from(at(minus), "h", "7"), from(at(plus), "h", "6"), from(at(num(-1)), "h", "4"), from(nil, "g", "9"), from(at(num(1), num(0))))}
	want := []api.Result{
		{Kind: api.ResNormal, Value: num(0)},
		{Labels: list("g", "9"), Kind: api.ResNoData, Value: null},
		{Labels: list("h", "1"), Kind: api.ResNormal, Value: num(0)},
		{Labels: list("h", "2"), Kind: api.ResAlert, Value: nan},
		{Labels: list("h", "3"), Kind: api.ResNoData, Value: null},
		{Labels: list("h", "4"), Kind: api.ResAlert, Value: num(-1)},
		{Labels: list("h", "5"), Kind: api.ResAlert, Value: num(1)},
		{Labels: list("h", "6"), Kind: api.ResAlert, Value: plus},
		{Labels: list("h", "7"), Kind: api.ResAlert, Value: minus},
	}
	nodes := []api.Node{query("A"), strictly("B", "A", "last"), expr("C", "$A"), strictly("D", "C", "last"), query("E"), expr("F", "$E + $A")}
	for _, condition := range []string{"A", "B", "C", "D"} {
		results(t, condition, condition, nodes, answers, want...)
	}
	results(t, "a threshold", "G", append(nodes, threshold("G", "A", "out", num(-500), num(0))), answers,
		api.Result{Kind: api.ResNormal, Value: no},
		api.Result{Labels: list("g", "9"), Kind: api.ResNoData, Value: null},
		api.Result{Labels: list("h", "1"), Kind: api.ResNormal, Value: no},
		api.Result{Labels: list("h", "2"), Kind: api.ResNormal, Value: no},
		api.Result{Labels: list("h", "3"), Kind: api.ResNoData, Value: null},
		api.Result{Labels: list("h", "4"), Kind: api.ResNormal, Value: no},
		api.Result{Labels: list("h", "5"), Kind: api.ResAlert, Value: yes},
		api.Result{Labels: list("h", "6"), Kind: api.ResAlert, Value: yes},
		api.Result{Labels: list("h", "7"), Kind: api.ResAlert, Value: yes})
}

// P13.3: a math of no refs needs no answer.
func TestEvalOfNoAnswer(t *testing.T) {
	for text, want := range map[string]api.Result{
		"2":     {Kind: api.ResAlert, Value: num(2000)},
		"0":     {Kind: api.ResNormal, Value: num(0)},
		"null":  {Kind: api.ResNoData, Value: null},
		"nan":   {Kind: api.ResAlert, Value: nan},
		"-inf":  {Kind: api.ResAlert, Value: minus},
		"1 > 2": {Kind: api.ResNormal, Value: no},
	} {
		results(t, text, "A", []api.Node{expr("A", text), query("B")}, nil, want)
	}
}

// P13.3: a frame that came to nothing is no data, though what it is made of has
// series.
func TestEvalOfNoSeries(t *testing.T) {
	nodes := []api.Node{query("A"), query("B"), expr("C", "$A + $B"), threshold("D", "C", "lt", num(1)), reduce("E", "D", "count"), expr("F", "is_null($E)")}
	for _, answers := range [][]api.Answer{
		{answer("A", from(at(num(1)), "h", "1")), answer("B", from(at(num(1)), "h", "2"))},
		{answer("A", from(at(num(1)), "h", "1")), answer("B")},
		{answer("A"), answer("B")},
		{answer("B"), answer("A", []api.Points{}...)},
	} {
		for _, condition := range []string{"B", "C", "D", "E", "F"} {
			if condition == "B" && len(answers[1].Points) > 0 {
				continue
			}
			results(t, condition, condition, nodes, answers[:2], api.Result{Kind: api.ResNoData, Value: null})
		}
	}
}

// P13.3: whatever Frames refuses is one error, without labels.
func TestEvalOfWhatIsRefused(t *testing.T) {
	a, good := query("A"), answer("A", from(at(num(1)), "h", "1"))
	wrong := api.Result{Kind: api.ResError, Value: null}
	for what, nodes := range map[string][]api.Node{
		"no node": nil, "another node": {query("B")}, "a node that may not be": {a, {Ref: "B"}}, "two of one ref": {a, a},
		"a circle": {a, reduce("B", "B", "sum")}, "an input that is none": {a, expr("B", "$C")},
	} {
		results(t, what, "A", nodes, []api.Answer{good}, wrong)
	}
	for what, answers := range map[string][]api.Answer{
		"no answer": nil, "failed": {failed("A"), good}, "labels": {answer("A", from(nil, "", ""))},
		"a value": {answer("A", from(at(num(1), api.Value{}, num(1))))}, "one label set": {answer("A", good.Points[0], good.Points[0])},
		"too many": {answer("A", manyPoints(api.MaxSeries+1, "h")...)},
	} {
		results(t, what, "A", []api.Node{a}, answers, wrong)
	}
}

// P13.3: a query that the condition does not need has no part, whatever became
// of it.
func TestEvalWithoutWhatIsNotNeeded(t *testing.T) {
	nodes := []api.Node{query("A"), query("B"), expr("C", "$A > 1"), expr("D", "$B")}
	good := answer("A", from(at(num(2000)), "h", "1"))
	want := api.Result{Labels: list("h", "1"), Kind: api.ResAlert, Value: yes}
	for _, answers := range [][]api.Answer{
		{good}, {failed("B"), good}, {good, answer("B")}, {answer("B", from(nil, "", "")), good}, {good, answer("D", from(at(num(1)))), failed("C")},
	} {
		results(t, "C", "C", nodes, answers, want)
	}
}
