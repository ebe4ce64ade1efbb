package eval_test

import (
	"math/rand"
	"slices"
	"strings"
	"testing"

	"klaxon/api"
	"klaxon/dag"
	"klaxon/eval"
	"klaxon/math"
	"klaxon/series"
	"klaxon/value"
)

func modelRefs() []string { return []string{"A", "AA", "A_", "B", "C", "D", "E"} }

func kindOfNode(ref string, nodes []api.Node) int {
	for _, n := range nodes {
		if n.Ref == ref {
			return n.Kind
		}
	}
	return 0
}

// saidNeeds is what a ref needs, found by asking again and again.
func saidNeeds(ref string, nodes []api.Node) []string {
	var refs []string
	if kindOfNode(ref, nodes) == 0 {
		return nil
	}
	refs = append(refs, ref)
	for i := 0; i < len(refs); i++ {
		for _, n := range nodes {
			if n.Ref != refs[i] {
				continue
			}
			for _, input := range dag.Inputs(n) {
				if !slices.Contains(refs, input) && kindOfNode(input, nodes) != 0 {
					refs = append(refs, input)
				}
			}
			break
		}
	}
	return refs
}

// saidPoints is what P13.2 says of points of a query.
func saidPoints(ref, how string, strict bool, answers []api.Answer) ([]api.Series, api.Errno) {
	for _, a := range answers {
		if a.Ref != ref {
			continue
		}
		if a.Failed {
			return nil, api.ErrQuery
		}
		var l []api.Series
		for _, p := range a.Points {
			v, err := series.Reduce(how, strict, p.Points...)
			if err != api.OK {
				return nil, err
			}
			l = append(l, api.Series{Labels: p.Labels, Value: v})
		}
		return series.Sort(l...)
	}
	return nil, api.ErrQuery
}

// saidFrame is what P13.2 says of one node.
func saidFrame(n api.Node, nodes []api.Node, answers []api.Answer, told map[string][]api.Series) ([]api.Series, api.Errno) {
	switch n.Kind {
	case api.NodeQuery:
		return saidPoints(n.Ref, "last", true, answers)
	case api.NodeReduce:
		if kindOfNode(n.Input, nodes) == api.NodeQuery {
			return saidPoints(n.Input, n.How, n.Strict, answers)
		}
		var l []api.Series
		for _, s := range told[n.Input] {
			l = append(l, api.Series{Labels: s.Labels, Value: saidAlone(n.How, n.Strict, s.Value)})
		}
		return l, api.OK
	case api.NodeMath:
		x, _, _ := math.Parse(n.Text)
		var env []api.Frame
		for ref, l := range told {
			env = append(env, frame(ref, l...))
		}
		return math.Eval(x, env...)
	}
	var l []api.Series
	for _, s := range told[n.Input] {
		l = append(l, api.Series{Labels: s.Labels, Value: saidBounded(n, s.Value)})
	}
	return l, api.OK
}

// saidBounded is the text that the document has for a threshold, over v and the
// bounds.
func saidBounded(n api.Node, v api.Value) api.Value {
	text := map[string]string{"gt": "$V > $L", "lt": "$V < $L", "in": "($V > $L) && ($V < $H)", "out": "($V < $L) || ($V > $H)"}[n.How]
	x, _, _ := math.Parse(text)
	l, _ := math.Eval(x, frame("V", of(v)), frame("L", of(n.Low)), frame("H", of(n.High)))
	return l[0].Value
}

// saidFrames is what P13.2 says: of the nodes that are needed alone, in their own
// order.
func saidFrames(ref string, nodes []api.Node, answers []api.Answer) ([]api.Frame, api.Errno) {
	if err := dag.Check(ref, nodes...); err != api.OK {
		return nil, err
	}
	var needed []api.Node
	for _, n := range nodes {
		if slices.Contains(saidNeeds(ref, nodes), n.Ref) {
			needed = append(needed, n)
		}
	}
	order, err := dag.Order(needed...)
	if err != api.OK {
		return nil, err
	}
	told := map[string][]api.Series{}
	var l []api.Frame
	for _, ref := range order {
		n := needed[slices.IndexFunc(needed, func(n api.Node) bool { return n.Ref == ref })]
		own, err := saidFrame(n, nodes, answers, told)
		if err != api.OK {
			return nil, err
		}
		told[ref] = own
		l = append(l, frame(ref, own...))
	}
	return l, api.OK
}

// saidEval is what P13.3 says.
func saidEval(condition string, nodes []api.Node, answers []api.Answer) []api.Result {
	all, err := saidFrames(condition, nodes, answers)
	if err != api.OK {
		return []api.Result{{Kind: api.ResError, Value: null}}
	}
	var l []api.Result
	for _, f := range all {
		for _, s := range f.Series {
			if f.Ref != condition {
				continue
			}
			kind := api.ResNormal
			if s.Value == null {
				kind = api.ResNoData
			} else if value.True(s.Value) {
				kind = api.ResAlert
			}
			l = append(l, api.Result{Labels: s.Labels, Kind: kind, Value: s.Value})
		}
	}
	if len(l) == 0 {
		return []api.Result{{Kind: api.ResNoData, Value: null}}
	}
	return l
}

// saidSources is what P13.4 says.
func saidSources(condition string, nodes []api.Node) []string {
	seen := map[string]bool{}
	for _, ref := range saidNeeds(condition, nodes) {
		i := slices.IndexFunc(nodes, func(n api.Node) bool { return n.Ref == ref })
		if nodes[i].Kind == api.NodeQuery {
			seen[nodes[i].Source] = true
		}
	}
	var l []string
	for s := range seen {
		l = append(l, s)
	}
	slices.Sort(l)
	return l
}

// anyValue is as often one of the others as a number.
func anyValue(r *rand.Rand) api.Value {
	return []api.Value{num(r.Int63n(9000) - 4500), num(r.Int63n(5) * 1000), num(0), num(1000), null, nan, plus, minus}[r.Intn(8)]
}

// anyLabels is a set of few names and values, so that sets often fit.
func anyLabels(r *rand.Rand) []api.Label {
	var l []api.Label
	for _, name := range []string{"d", "h", "i"}[:1+r.Intn(3)] {
		if r.Intn(3) > 0 {
			l = append(l, api.Label{Name: name, Value: []string{"1", "2", "3", "4"}[r.Intn(4)]})
		}
	}
	return l
}

// anyPoints is seldom such as may not be.
func anyPoints(r *rand.Rand) api.Points {
	p := api.Points{Labels: anyLabels(r)}
	for range r.Intn(5) {
		p.Points = append(p.Points, api.Point{At: r.Int63n(6), Value: anyValue(r)})
	}
	switch r.Intn(120) {
	case 0:
		p.Labels = noSets()[r.Intn(len(noSets()))]
	case 1:
		p.Points = append(p.Points, api.Point{Value: noValues()[r.Intn(len(noValues()))]})
	case 2:
		p.Points = make([]api.Point, api.MaxPoints+1)
	}
	return p
}

// anyAnswer has seldom failed, and seldom two Points of one label set.
func anyAnswer(r *rand.Rand, ref string) api.Answer {
	a := api.Answer{Ref: ref, Failed: r.Intn(15) == 0}
	seen := map[string]bool{}
	for range r.Intn(6) {
		p := anyPoints(r)
		var key strings.Builder
		for _, x := range p.Labels {
			key.WriteString(x.Name + "=" + x.Value + ",")
		}
		if !seen[key.String()] || r.Intn(20) == 0 {
			a.Points = append(a.Points, p)
		}
		seen[key.String()] = true
	}
	return a
}

// anyNode hangs on those of before, mostly.
func anyNode(r *rand.Rand, ref string, before []string) api.Node {
	if len(before) == 0 || r.Intn(4) == 0 {
		if r.Intn(8) == 0 {
			return expr(ref, []string{"1", "null", "0 / 0", "-inf", "1.5 * 2"}[r.Intn(5)])
		}
		return api.Node{Ref: ref, Kind: api.NodeQuery, Source: []string{"cpu", "mem", "disk"}[r.Intn(3)]}
	}
	input, other := before[r.Intn(len(before))], before[r.Intn(len(before))]
	bound := []api.Value{num(r.Int63n(6000) - 3000), num(1000), num(0), plus, minus}
	switch r.Intn(6) {
	case 0, 1:
		n := reduce(ref, input, waysToReduce()[r.Intn(6)])
		n.Strict = r.Intn(2) == 0
		return n
	case 2:
		return threshold(ref, input, []string{"gt", "lt"}[r.Intn(2)], bound[r.Intn(5)])
	case 3:
		return threshold(ref, input, []string{"in", "out"}[r.Intn(2)], bound[r.Intn(5)], bound[r.Intn(5)])
	case 4:
		return expr(ref, []string{"-$", "abs($", "1 + $", "!$", "2.5 * $"}[r.Intn(5)]+input)
	}
	return expr(ref, "$"+input+[]string{" + $", " - $", " > $", " && $", " / $"}[r.Intn(5)]+other)
}

// anyRule is nodes, answers and a condition, mostly such as may be.
func anyRule(r *rand.Rand) ([]api.Node, []api.Answer, string) {
	refs := shuffled(r, modelRefs())[:1+r.Intn(7)]
	var nodes []api.Node
	var answers []api.Answer
	for i, ref := range refs {
		before := refs[:i]
		if r.Intn(60) == 0 {
			before = modelRefs()
		}
		n := anyNode(r, ref, before)
		// An open bracket above is a text that is no tree, and closed here mostly.
		if strings.Contains(n.Text, "(") && r.Intn(20) > 0 {
			n.Text += ")"
		}
		nodes = append(nodes, n)
		if n.Kind == api.NodeQuery && r.Intn(15) > 0 || r.Intn(10) == 0 {
			answers = append(answers, anyAnswer(r, ref))
		}
		if r.Intn(10) == 0 {
			answers = append(answers, anyAnswer(r, ref))
		}
	}
	condition := refs[len(refs)-1]
	if r.Intn(8) == 0 {
		condition = append(modelRefs(), "", "Z")[r.Intn(9)]
	}
	if r.Intn(40) == 0 {
		nodes = append(nodes, nodes[r.Intn(len(nodes))])
	}
	return shuffled(r, nodes), shuffled(r, answers), condition
}

// P13.1 to P13.4: against the document.
func TestAgainstTheDocument(t *testing.T) {
	r := rand.New(rand.NewSource(13))
	errs, kinds := map[api.Errno]int{}, map[int]int{}
	for range 20000 {
		nodes, answers, condition := anyRule(r)
		got, err := eval.Frames(condition, nodes, answers...)
		want, said := saidFrames(condition, nodes, answers)
		if err != said || !sameFrames(got, want) || err != api.OK && got != nil {
			t.Fatalf("Frames %q of %s and %s: %v, error %d, want %v, %d", condition, brief(nodes), brief(answers), got, err, want, said)
		}
		errs[err]++
		told := eval.Eval(condition, nodes, answers...)
		if want := saidEval(condition, nodes, answers); !sameResults(told, want) {
			t.Fatalf("Eval %q of %s and %s: %v, want %v", condition, brief(nodes), brief(answers), told, want)
		}
		for _, x := range told {
			kinds[x.Kind]++
		}
		if got, want := eval.Sources(condition, nodes...), saidSources(condition, nodes); !slices.Equal(got, want) {
			t.Fatalf("Sources %q of %s: %q, want %q", condition, brief(nodes), got, want)
		}
	}
	for _, err := range []api.Errno{api.OK, api.ErrQuery, api.ErrLabel, api.ErrValue, api.ErrThere, api.ErrMany, api.ErrNone, api.ErrNode, api.ErrCycle} {
		if errs[err] < 50 {
			t.Errorf("few of error %d: %v", err, errs)
		}
	}
	for kind := api.ResNormal; kind <= api.ResError; kind++ {
		if kinds[kind] < 1000 {
			t.Errorf("few of kind %d: %v", kind, kinds)
		}
	}
}
