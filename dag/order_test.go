package dag_test

import (
	"fmt"
	"slices"
	"strings"
	"testing"

	"klaxon/api"
	"klaxon/dag"
)

// P12.3
func TestOrder(t *testing.T) {
	orders(t, "")
	orders(t, "", []api.Node{}...)
	orders(t, "A", query("A"))
	orders(t, "A B C", query("A"), reduce("B", "A"), expr("C", "$B > 1"))
	orders(t, "A B D C", query("A"), reduce("B", "A"), expr("C", "$B > 1 && $D"), threshold("D", "A", "in"))
	orders(t, "C B A", query("C"), reduce("B", "C"), threshold("A", "B", "lt"))
	orders(t, "A B", expr("A", "1"), expr("B", "$A + $A"))
}

// P12.3: each time the least one of those that may be told, byte by byte.
func TestOrderTakesTheLeast(t *testing.T) {
	orders(t, "A B C", query("A"), query("B"), query("C"))
	orders(t, "A A0 A9 AA A_ Aa B", query("A"), query("A0"), query("A9"), query("AA"), query("A_"), query("Aa"), query("B"))
	orders(t, "B1 B10 B2", query("B1"), query("B10"), query("B2"))
}

// P12.3: what waited comes ahead of greater ones that never did.
func TestOrderGoesBackToWhatWaited(t *testing.T) {
	orders(t, "B A C D", hangs("A", "B"), hangs("B"), hangs("C"), hangs("D"))
	orders(t, "C A D B E", hangs("A", "C"), hangs("B", "D"), hangs("C"), hangs("D"), hangs("E"))
	orders(t, "B D C A E", hangs("A", "C"), hangs("B"), hangs("C", "D"), hangs("D"), hangs("E"))
	orders(t, "B C A D", hangs("A", "C"), hangs("B"), hangs("C", "B"), hangs("D"))
	orders(t, "E D C B A", hangs("A", "B"), hangs("B", "C"), hangs("C", "D"), hangs("D", "E"), hangs("E"))
	orders(t, "C D B A E", hangs("A", "B", "C", "D"), hangs("B", "D"), hangs("C"), hangs("D"), hangs("E", "A"))
}

// P12.3: circles, with nodes beside them that are in none.
func TestOrderOfCircles(t *testing.T) {
	refuses(t, api.ErrCycle, expr("A", "$A"))
	refuses(t, api.ErrCycle, reduce("A", "A"))
	refuses(t, api.ErrCycle, threshold("A", "A", "gt"))
	refuses(t, api.ErrCycle, expr("A", "$B"), expr("B", "$A"))
	refuses(t, api.ErrCycle, query("A"), expr("B", "$B + $A"))
	refuses(t, api.ErrCycle, query("A"), query("Z"), reduce("B", "C"), threshold("C", "B", "in"))
	refuses(t, api.ErrCycle, append(circle("B", "C", "D", "E", "F"), query("A"), hangs("G", "B"), hangs("H", "A"))...)
	refuses(t, api.ErrCycle, append(circle("A", "B"), circle("C", "D")...)...)
	var refs []string
	for i := range 200 {
		refs = append(refs, fmt.Sprintf("R%d", i))
	}
	refuses(t, api.ErrCycle, circle(refs...)...)
	refuses(t, api.ErrCycle, append(circle(refs...), queries(50)...)...)
}

// P12.3: what is no node's ref is never told.
func TestOrderOfInputsThatAreNone(t *testing.T) {
	refuses(t, api.ErrCycle, expr("A", "$B"))
	refuses(t, api.ErrCycle, query("A"), reduce("B", "C"))
	refuses(t, api.ErrCycle, query("A"), threshold("B", "AA", "gt"), query("C"))
	refuses(t, api.ErrCycle, query("A"), expr("B", "$A + $Gone"))
	for _, input := range noRefs() {
		refuses(t, api.ErrCycle, query("A"), reduce("B", input))
	}
}

// P12.3
func TestOrderOfTwoNodesOfOneRef(t *testing.T) {
	refuses(t, api.ErrThere, query("A"), query("A"))
	refuses(t, api.ErrThere, query("A"), reduce("A", "B"), query("B"))
	refuses(t, api.ErrThere, query("A"), query("B"), query("A"))
	refuses(t, api.ErrThere, api.Node{}, api.Node{})
	refuses(t, api.ErrThere, append(queries(100), query("Q199"))...)
	// That comes ahead of a circle.
	refuses(t, api.ErrThere, expr("A", "$A"), expr("A", "$A"))
	refuses(t, api.ErrThere, append(circle("A", "B"), query("C"), query("C"))...)
	refuses(t, api.ErrThere, query("C"), query("C"), reduce("D", "Gone"))
}

// P12.3: nodes are not asked whether they may be, nor how many there are.
func TestOrderOfNodesThatMayNotBe(t *testing.T) {
	for _, text := range noTrees() {
		orders(t, "A B", expr("A", text), query("B"))
		orders(t, "B A", expr("B", text), reduce("A", "B"))
	}
	for _, kind := range noKinds() {
		orders(t, "A B", api.Node{Ref: "A", Kind: kind, Input: "B", Text: "$B"}, query("B"))
	}
	orders(t, "a b", query("a"), reduce("b", "a"))
	orders(t, "b a", query("b"), threshold("a", "b", ""))
	orders(t, "B A", api.Node{Ref: "B", Kind: api.NodeQuery, Input: "A", Text: "$A"}, api.Node{Ref: "A", Kind: api.NodeReduce, Input: "B", How: "none"})
	got, err := dag.Order(reduce("A", ""), query(""))
	if err != api.OK || !slices.Equal(got, []string{"", "A"}) {
		t.Errorf("%q, error %d", got, err)
	}
	long := strings.Repeat("A", 1000)
	orders(t, long+" B", query(long), reduce("B", long))
	orders(t, "\x00 A \xff", query("\x00"), query("A"), query("\xff"))
}

// P12.3: as many as there are, in a row and side by side.
func TestOrderOfManyNodes(t *testing.T) {
	const many = 300
	var row, back, side []string
	var rowNodes, backNodes, sideNodes []api.Node
	for i := range many {
		ref := fmt.Sprintf("R%d", 1000+i)
		row, side = append(row, ref), append(side, ref)
		back = append([]string{ref}, back...)
		sideNodes = append(sideNodes, query(ref))
		if i == 0 {
			rowNodes = append(rowNodes, query(ref))
		} else {
			rowNodes = append(rowNodes, reduce(ref, row[i-1]))
		}
		if i == many-1 {
			backNodes = append(backNodes, query(ref))
		} else {
			backNodes = append(backNodes, reduce(ref, fmt.Sprintf("R%d", 1001+i)))
		}
	}
	orders(t, strings.Join(row, " "), rowNodes...)
	orders(t, strings.Join(back, " "), backNodes...)
	orders(t, strings.Join(side, " "), sideNodes...)
	orders(t, strings.Join(side[:api.MaxNodes+1], " "), sideNodes[:api.MaxNodes+1]...)
}
