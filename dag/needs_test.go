package dag_test

import (
	"fmt"
	"slices"
	"strings"
	"testing"

	"klaxon/api"
	"klaxon/dag"
)

// P12.4
func TestNeeds(t *testing.T) {
	l := []api.Node{query("A"), reduce("B", "A"), expr("C", "$B > 1 && $D"), threshold("D", "A", "in")}
	needs(t, "A", "A", l...)
	needs(t, "B", "A B", l...)
	needs(t, "C", "A B C D", l...)
	needs(t, "D", "A D", l...)
	needs(t, "Z", "X Y Z", reduce("Z", "Y"), reduce("Y", "X"), query("X"), query("W"))
	needs(t, "A", "A B C", reduce("A", "B"), reduce("B", "C"), query("C"), reduce("D", "A"))
	needs(t, "R", "A A0 AA A_ Aa R", hangs("R", "Aa", "A_", "AA", "A0", "A"), query("A"), query("A0"), query("AA"), query("A_"), query("Aa"), query("B"))
}

// P12.4: each once, however many ways lead to it.
func TestNeedsOfSeveralWays(t *testing.T) {
	needs(t, "D", "A B C D", hangs("D", "B", "C"), hangs("C", "A"), hangs("B", "A"), query("A"))
	needs(t, "D", "A D", expr("D", "$A + $A * $A"), query("A"), query("B"))
	// Of each layer both nodes hang on both of the one ahead: 2^100 ways.
	l := []api.Node{query("A100"), query("B100")}
	refs := []string{"A100", "B100"}
	for i := 101; i < 200; i++ {
		a, b := fmt.Sprintf("A%d", i), fmt.Sprintf("B%d", i)
		l = append(l, hangs(a, refs[len(refs)-2:]...), hangs(b, refs[len(refs)-2:]...))
		refs = append(refs, a, b)
	}
	slices.Sort(refs)
	needs(t, "A199", strings.Join(slices.DeleteFunc(refs, func(ref string) bool { return ref == "B199" }), " "), l...)
}

// P12.4
func TestNeedsOfWhatIsNoNode(t *testing.T) {
	needs(t, "A", "")
	needs(t, "", "")
	needs(t, "A", "", []api.Node{}...)
	for _, ref := range append(noRefs(), "B", "AA") {
		needs(t, ref, "", query("A"), expr("C", "$A"))
	}
	// That a node hangs on it makes it no node's.
	needs(t, "B", "", query("A"), reduce("C", "B"), expr("D", "$B"))
	needs(t, "Gone", "", hangs("A", "Gone"))
}

// P12.4: as far as they are nodes' refs.
func TestNeedsOfInputsThatAreNone(t *testing.T) {
	needs(t, "A", "A", hangs("A", "Gone"))
	needs(t, "A", "A B", hangs("A", "Gone", "B", "Gone2"), hangs("B", "Gone", "Gone3"), query("C"))
	needs(t, "A", "A C", hangs("A", "Gone", "C"), query("C"), hangs("B", "A"))
	for _, input := range noRefs() {
		needs(t, "A", "A", reduce("A", input), query("B"))
	}
}

// P12.4: circles end.
func TestNeedsOfCircles(t *testing.T) {
	needs(t, "A", "A", expr("A", "$A"))
	needs(t, "A", "A", reduce("A", "A"), query("B"))
	for _, ref := range []string{"A", "B"} {
		needs(t, ref, "A B", append(circle("A", "B"), query("C"), hangs("D", "A"))...)
	}
	needs(t, "D", "A B D", append(circle("A", "B"), query("C"), hangs("D", "A"))...)
	for _, ref := range []string{"B", "C", "D", "E", "F"} {
		needs(t, ref, "A B C D E F", hangs("B", "D"), hangs("D", "C"), hangs("C", "F"), hangs("F", "A", "E"), hangs("E", "B"), query("A"), hangs("G", "B"))
	}
}

// P12.4: nodes are not asked whether they may be, nor how many there are.
func TestNeedsOfNodesThatMayNotBe(t *testing.T) {
	for _, text := range noTrees() {
		needs(t, "A", "A", expr("A", text), query("B"))
		needs(t, "B", "A B", expr("A", text), reduce("B", "A"))
	}
	for _, kind := range noKinds() {
		needs(t, "A", "A", api.Node{Ref: "A", Kind: kind, Input: "B", Text: "$B"}, query("B"))
	}
	needs(t, "b", "a b", query("a"), reduce("b", "a"), query("c"))
	needs(t, "A", "A", api.Node{Ref: "A", Kind: api.NodeQuery, Input: "B", Text: "$B"}, query("B"))
	for _, ref := range noRefs() {
		for _, l := range [][]api.Node{{query(ref), reduce("B", ref)}, {reduce("B", ref), query(ref)}} {
			want := []string{ref, "B"}
			slices.Sort(want)
			if got := dag.Needs("B", l...); !slices.Equal(got, want) {
				t.Errorf("%q, want %q", got, want)
			}
			if got := dag.Needs(ref, l...); !slices.Equal(got, []string{ref}) {
				t.Errorf("%q of itself", got)
			}
		}
	}
	// A row of more nodes than a rule may have.
	var row []api.Node
	var refs []string
	for i := range 5000 {
		refs = append(refs, fmt.Sprintf("R%d", 10000+i))
		row = append(row, reduce(refs[i], fmt.Sprintf("R%d", 10001+i)))
	}
	if got := dag.Needs(refs[0], row...); !slices.Equal(got, refs) {
		t.Errorf("%d of 5000", len(got))
	}
	if got := dag.Needs(refs[4000], row...); !slices.Equal(got, refs[4000:]) {
		t.Errorf("%d of 1000", len(got))
	}
}

// P12.4: of two nodes of one Ref the first one counts.
func TestNeedsOfTwoNodesOfOneRef(t *testing.T) {
	b, c := query("B"), query("C")
	for _, l := range [][]api.Node{
		{reduce("A", "B"), reduce("A", "C"), b, c},
		{b, reduce("A", "B"), c, reduce("A", "C")},
		{reduce("A", "B"), query("A"), b, c, expr("A", "$C")},
		{c, b, reduce("A", "B"), b, c, reduce("A", "C"), reduce("B", "C")},
	} {
		if got := dag.Needs("A", l...); !slices.Equal(got, []string{"A", "B"}) {
			t.Errorf("Needs A of %s: %q", brief(l), got)
		}
	}
	if got := dag.Needs("A", query("A"), reduce("A", "B"), b); !slices.Equal(got, []string{"A"}) {
		t.Errorf("%q", got)
	}
	if got := dag.Needs("D", reduce("D", "A"), reduce("A", "C"), reduce("A", "B"), b, c); !slices.Equal(got, []string{"A", "C", "D"}) {
		t.Errorf("%q", got)
	}
}
