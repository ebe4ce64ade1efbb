package eval_test

import (
	"math/rand"
	"slices"
	"strconv"
	"testing"

	"klaxon/api"
	"klaxon/eval"
	"klaxon/value"
)

// outcome is all that the calls tell of a condition.
type outcome struct {
	frames  []api.Frame
	err     api.Errno
	results []api.Result
	sources []string
}

func outcomeOf(condition string, nodes []api.Node, answers []api.Answer) outcome {
	f, err := eval.Frames(condition, nodes, answers...)
	return outcome{f, err, eval.Eval(condition, nodes, answers...), eval.Sources(condition, nodes...)}
}

func (a outcome) same(b outcome) bool {
	return a.err == b.err && sameFrames(a.frames, b.frames) && sameResults(a.results, b.results) && slices.Equal(a.sources, b.sources)
}

// P13.5: answers to what the condition does not need have no part.
func TestAnswersThatAreNotNeededHaveNoPart(t *testing.T) {
	r := rand.New(rand.NewSource(131))
	dropped, added := 0, 0
	for range 4000 {
		nodes, answers, condition := anyRule(r)
		whole := outcomeOf(condition, nodes, answers)
		needed := saidNeeds(condition, nodes)
		var fewer []api.Answer
		for _, a := range answers {
			if slices.Contains(needed, a.Ref) && kindOfNode(a.Ref, nodes) == api.NodeQuery {
				fewer = append(fewer, a)
			} else {
				dropped++
			}
		}
		if got := outcomeOf(condition, nodes, fewer); !got.same(whole) {
			t.Fatalf("%s of %s, without some of %s: %v, want %v", condition, brief(nodes), brief(answers), got, whole)
		}
		var more []api.Answer
		for _, ref := range modelRefs() {
			if !slices.Contains(needed, ref) {
				more = append(more, failed(ref), anyAnswer(r, ref))
				added++
			}
		}
		more = append(more, answers...)
		if got := outcomeOf(condition, nodes, more); !got.same(whole) {
			t.Fatalf("%s of %s, with more than %s: %v, want %v", condition, brief(nodes), brief(answers), got, whole)
		}
	}
	if dropped < 1000 || added < 1000 {
		t.Errorf("%d were dropped, %d added", dropped, added)
	}
}

// P13.5: nor has the order of nodes.
func TestTheOrderOfNodesHasNoPart(t *testing.T) {
	r := rand.New(rand.NewSource(132))
	for range 2000 {
		nodes, answers, condition := anyRule(r)
		whole := outcomeOf(condition, nodes, answers)
		for range 4 {
			turned := shuffled(r, nodes)
			if got := outcomeOf(condition, turned, answers); !got.same(whole) && onceEach(nodes) {
				t.Fatalf("%s of %s: %v, want %v", condition, brief(turned), got, whole)
			}
		}
	}
}

// onceEach is whether no two nodes have one ref: of two the first one counts in
// Sources.
func onceEach(nodes []api.Node) bool {
	seen := map[string]bool{}
	for _, n := range nodes {
		if seen[n.Ref] {
			return false
		}
		seen[n.Ref] = true
	}
	return true
}

// P13.5: nodes that are not needed have no part, where they may be.
func TestNodesThatAreNotNeededHaveNoPart(t *testing.T) {
	r := rand.New(rand.NewSource(133))
	for range 2000 {
		nodes, answers, condition := anyRule(r)
		whole := outcomeOf(condition, nodes, answers)
		if whole.err != api.OK {
			continue
		}
		needed := saidNeeds(condition, nodes)
		fewer := slices.DeleteFunc(slices.Clone(nodes), func(n api.Node) bool { return !slices.Contains(needed, n.Ref) })
		if got := outcomeOf(condition, fewer, answers); !got.same(whole) {
			t.Fatalf("%s of %s: %v, want %v", condition, brief(fewer), got, whole)
		}
	}
}

// asText is a bound as an expression has it.
func asText(v api.Value) string {
	switch v {
	case plus:
		return "inf"
	case minus:
		return "-inf"
	}
	return value.Print(v)
}

// P13.6
func TestAThresholdIsAMath(t *testing.T) {
	r := rand.New(rand.NewSource(136))
	bounds := []api.Value{num(0), num(1), num(-1), num(1000), num(-1500), num(999), num(maxNum), num(-maxNum), plus, minus}
	inputs := []api.Node{query("B"), reduce("B", "A", "sum"), strictly("B", "A", "mean"), expr("B", "$A * 2"), threshold("B", "A", "in", num(0), num(9)), expr("B", "1.5")}
	seen := map[api.Value]int{}
	for range 60 {
		points := []api.Points{from(at(anyValue(r)))}
		for i := range r.Intn(8) {
			v := append(bounds, anyValue(r), null, nan)[r.Intn(len(bounds)+3)]
			points = append(points, from(at(anyValue(r), v), "h", strconv.Itoa(i)))
		}
		answers := []api.Answer{answer("A", points...), answer("B", points...)}
		for _, bound := range append(bounds, num(r.Int63n(5000)-2500)) {
			for how, sign := range map[string]string{"gt": " > ", "lt": " < "} {
				for _, input := range inputs {
					nodes := []api.Node{query("A"), input, threshold("T", "B", how, bound), expr("M", "$B"+sign+asText(bound))}
					one, err := eval.Frames("T", nodes, answers...)
					other, err2 := eval.Frames("M", nodes, answers...)
					if err != api.OK || err2 != api.OK || !sameSeries(one[len(one)-1].Series, other[len(other)-1].Series) {
						t.Fatalf("%s %v of %s: %v, error %d, and %v, error %d", how, bound, brief(points), one, err, other, err2)
					}
					if !sameResults(eval.Eval("T", nodes, answers...), eval.Eval("M", nodes, answers...)) {
						t.Fatalf("%s %v of %s: unlike results", how, bound, brief(points))
					}
					for _, s := range one[len(one)-1].Series {
						seen[s.Value]++
					}
				}
			}
		}
	}
	if seen[yes] < 1000 || seen[no] < 1000 || seen[null] < 1000 || len(seen) != 3 {
		t.Errorf("%v", seen)
	}
}

// P13.6: in and out, too, are what their two halves tell.
func TestTwoBoundsAreTwoHalves(t *testing.T) {
	r := rand.New(rand.NewSource(137))
	for range 300 {
		var points []api.Points
		for i := range 6 {
			points = append(points, from(at([]api.Value{anyValue(r), num(r.Int63n(9) - 4)}[r.Intn(2)]), "h", strconv.Itoa(i)))
		}
		low, high := num(r.Int63n(9)-4), num(r.Int63n(9)-4)
		nodes := []api.Node{
			query("A"), threshold("I", "A", "in", low, high), threshold("O", "A", "out", low, high),
			expr("J", "$A > "+asText(low)+" && $A < "+asText(high)), expr("P", "$A < "+asText(low)+" || $A > "+asText(high)),
		}
		for one, other := range map[string]string{"I": "J", "O": "P"} {
			if a, b := eval.Eval(one, nodes, answer("A", points...)), eval.Eval(other, nodes, answer("A", points...)); !sameResults(a, b) || len(a) != 6 {
				t.Fatalf("%s of %s: %v, want %v", one, brief(points), a, b)
			}
		}
	}
}
