package eval_test

import (
	"reflect"
	"slices"
	"testing"

	"klaxon/api"
	"klaxon/eval"
)

// roomy is the list with spare room behind it, in which x stands.
func roomy[T any](x T, l ...T) []T {
	return append(slices.Clone(l), x, x)[:len(l)]
}

// whole is the list with its spare room.
func whole[T any](l []T) []T { return l[:cap(l)] }

// roomyRule is nodes and answers in which each list has spare room: of all kinds
// of nodes, and labels and points that must be sorted.
func roomyRule() ([]api.Node, []api.Answer) {
	nodes := roomy(query("Spare"),
		threshold("F", "E", "out", num(1), num(2)), expr("E", "$D + $B"), strictly("D", "C", "sum"), reduce("C", "A", "mean"), query("B"), query("A"),
		expr("G", "$A"), reduce("H", "G", "max"), threshold("I", "A", "gt", num(1)))
	label := api.Label{Name: "spare", Value: "spare"}
	point := api.Point{At: 99, Value: num(99)}
	points := func(v api.Value, l ...api.Label) api.Points {
		return api.Points{Labels: roomy(label, l...), Points: roomy(point, at(num(7), null, nan, v)...)}
	}
	spare := points(num(5), list("spare", "1")...)
	a := roomy(spare, points(num(3), list("h", "2")...), points(num(2), list("d", "9", "h", "3")...), points(num(1), list("h", "1")...))
	b := roomy(spare, points(num(4), list("d", "1", "h", "1")...), points(num(6), list("d", "1", "h", "2")...))
	return nodes, roomy(answer("Spare"), answer("B", b...), api.Answer{Ref: "A", Points: a}, failed("A"))
}

// deep is all that can be reached of the arguments, spare room too, as a copy
// that shares nothing.
func deep(nodes []api.Node, answers []api.Answer) ([]api.Node, []api.Answer) {
	answers = slices.Clone(whole(answers))
	for i := range answers {
		all := slices.Clone(whole(answers[i].Points))
		for j, p := range all {
			all[j] = api.Points{Labels: slices.Clone(whole(p.Labels)), Points: slices.Clone(whole(p.Points))}
		}
		answers[i].Points = all
	}
	return slices.Clone(whole(nodes)), answers
}

func scribbleLabels(l []api.Label) {
	for i := range whole(l) {
		whole(l)[i] = api.Label{Name: "scribble", Value: "scribble"}
	}
}

func scribbleFrames(l []api.Frame) {
	for i := range whole(l) {
		f := whole(l)[i]
		for j := range whole(f.Series) {
			scribbleLabels(whole(f.Series)[j].Labels)
			whole(f.Series)[j].Value = num(12345)
		}
		whole(l)[i].Ref = "Scribble"
	}
}

func scribbleResults(l []api.Result) {
	for i := range whole(l) {
		scribbleLabels(whole(l)[i].Labels)
		whole(l)[i] = api.Result{Kind: 77}
	}
}

// P13.2 to P13.4: nothing that is handed in is changed, and what is answered is
// new, spare room too.
func TestNothingIsChangedOrShared(t *testing.T) {
	for _, ref := range []string{"A", "B", "C", "D", "E", "F", "G", "H", "I", "Z", ""} {
		nodes, answers := roomyRule()
		nodesAhead, answersAhead := deep(nodes, answers)
		unchanged := func(what string) {
			t.Helper()
			if n, a := deep(nodes, answers); !slices.Equal(n, nodesAhead) || !reflect.DeepEqual(a, answersAhead) {
				t.Fatalf("%s of %q changed what was handed in: %v, %v", what, ref, n, a)
			}
		}
		first, err := eval.Frames(ref, nodes, answers...)
		unchanged("Frames")
		told := eval.Eval(ref, nodes, answers...)
		unchanged("Eval")
		sources := eval.Sources(ref, nodes...)
		unchanged("Sources")

		again, _ := eval.Frames(ref, nodes, answers...)
		toldAgain, sourcesAgain := eval.Eval(ref, nodes, answers...), eval.Sources(ref, nodes...)
		if !sameFrames(first, again) || !sameResults(told, toldAgain) || !slices.Equal(sources, sourcesAgain) {
			t.Fatalf("%q: unlike the second time", ref)
		}
		scribbleFrames(first)
		scribbleResults(told)
		for i := range whole(sources) {
			whole(sources)[i] = "scribble"
		}
		unchanged("what was made of an answer")
		want, said := saidFrames(ref, nodes, answers)
		if err != said || !sameFrames(again, want) || !sameResults(toldAgain, saidEval(ref, nodes, answers)) || !slices.Equal(sourcesAgain, saidSources(ref, nodes)) {
			t.Fatalf("%q: two answers share something", ref)
		}
	}
}

// P13.2: no two lists of one answer share any memory.
func TestFramesShareNothing(t *testing.T) {
	nodes, answers := roomyRule()
	for _, ref := range []string{"F", "H", "I"} {
		got, err := eval.Frames(ref, nodes, answers...)
		if err != api.OK {
			t.Fatalf("error %d", err)
		}
		want, _ := saidFrames(ref, nodes, answers)
		for i := range got {
			for j := range got[i].Series {
				scribbleLabels(got[i].Series[j].Labels)
				got[i].Series[j].Labels = slices.Clone(want[i].Series[j].Labels)
				if !sameFrames(got, want) {
					t.Fatalf("%s: the labels of %s, %d, are those of another: %v, want %v", ref, got[i].Ref, j, got, want)
				}
			}
			clear(whole(got[i].Series))
			got[i].Series = slices.Clone(want[i].Series)
			if !sameFrames(got, want) {
				t.Fatalf("%s: the series of %s are those of another", ref, got[i].Ref)
			}
		}
	}
}

// P13.2: nil and an empty list are the same.
func TestNilAndEmpty(t *testing.T) {
	nodes := []api.Node{query("A"), reduce("B", "A", "sum")}
	for _, a := range []api.Answer{
		{Ref: "A", Points: []api.Points{{}}},
		{Ref: "A", Points: []api.Points{{Labels: []api.Label{}, Points: []api.Point{}}}},
	} {
		frames(t, "no labels, no points", "B", nodes, []api.Answer{a}, frame("A", of(null)), frame("B", of(null)))
		results(t, "no labels, no points", "B", nodes, []api.Answer{a}, api.Result{Kind: api.ResNoData, Value: null})
	}
	frames(t, "nil Points", "B", nodes, []api.Answer{{Ref: "A"}}, frame("A"), frame("B"))
	frames(t, "empty Points", "B", nodes, []api.Answer{{Ref: "A", Points: []api.Points{}}}, frame("A"), frame("B"))
}
