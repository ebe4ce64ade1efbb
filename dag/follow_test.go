package dag_test

import (
	"fmt"
	"math/rand"
	"slices"
	"strings"
	"testing"

	"klaxon/api"
	"klaxon/dag"
)

// anyDag is nodes without a circle, of refs that are not in the order in which
// they hang on one another.
func anyDag(r *rand.Rand, count int) []api.Node {
	var refs []string
	for i := range count {
		refs = append(refs, fmt.Sprintf("%c%d", 'A'+rune(r.Intn(3)), i))
	}
	refs = shuffled(r, refs)
	var l []api.Node
	for i, ref := range refs {
		if i == 0 || r.Intn(4) == 0 {
			l = append(l, query(ref))
			continue
		}
		input := refs[r.Intn(i)]
		switch r.Intn(4) {
		case 0:
			l = append(l, reduce(ref, input))
		case 1:
			l = append(l, threshold(ref, input, waysToBound()[r.Intn(4)]))
		default:
			l = append(l, hangs(ref, input, refs[r.Intn(i)], refs[r.Intn(i)]))
		}
	}
	return l
}

// standsAhead asks that each ref stands behind all that it hangs on.
func standsAhead(t *testing.T, order []string, l []api.Node) {
	t.Helper()
	place := map[string]int{}
	for i, ref := range order {
		place[ref] = i
	}
	for _, n := range l {
		for _, input := range saidInputs(n) {
			if place[input] >= place[n.Ref] {
				t.Fatalf("%s does not stand behind %s: %s of %s", n.Ref, input, order, brief(l))
			}
		}
	}
}

// P12.5: behind all that it hangs on, in whatever order nodes are handed in.
func TestOrderWhateverIsHandedInFirst(t *testing.T) {
	r := rand.New(rand.NewSource(5))
	for count := range 40 {
		for range 20 {
			l := anyDag(r, count)
			order, err := dag.Order(l...)
			if err != api.OK || len(order) != count {
				t.Fatalf("Order of %s: %s, error %d", brief(l), order, err)
			}
			standsAhead(t, order, l)
			orders(t, strings.Join(order, " "), l...)
			if 0 < count && count <= api.MaxNodes {
				checks(t, api.OK, order[r.Intn(count)], l...)
			}
		}
	}
}

// P12.5: all orders of a few nodes.
func TestOrderOfAllPermutations(t *testing.T) {
	r := rand.New(rand.NewSource(55))
	for count := 2; count <= 6; count++ {
		for range 10 {
			l := anyDag(r, count)
			first, _ := dag.Order(l...)
			standsAhead(t, first, l)
			for _, handed := range permutations(l) {
				if got, err := dag.Order(handed...); err != api.OK || !slices.Equal(got, first) {
					t.Fatalf("Order of %s: %s, error %d, want %s", brief(handed), got, err, first)
				}
			}
		}
	}
}

// What a node needs are those of Order up to it that lead to it.
func TestNeedsLieInOrder(t *testing.T) {
	r := rand.New(rand.NewSource(56))
	for range 300 {
		l := anyDag(r, 1+r.Intn(20))
		order, _ := dag.Order(l...)
		for i, ref := range order {
			for _, needed := range dag.Needs(ref, l...) {
				if !slices.Contains(order[:i+1], needed) {
					t.Fatalf("%s needs %s, which is told behind it: %s", ref, needed, order)
				}
			}
		}
	}
}

// spare is nodes with spare room that holds something, too.
func spare(l []api.Node) []api.Node {
	own := make([]api.Node, len(l), len(l)+3)
	copy(own, l)
	for i := range own[len(l):cap(own)] {
		own[len(l):cap(own)][i] = reduce(fmt.Sprintf("Spare%d", i), "A")
	}
	return own
}

// P12.1 to P12.4: what is handed in stays as it was, spare room too.
func TestNothingHandedInIsChanged(t *testing.T) {
	r := rand.New(rand.NewSource(57))
	lists := [][]api.Node{nil, {query("B"), query("A")}, circle("C", "A", "B"), {query("A"), query("A")}, {hangs("B", "Gone"), query("A")}, queries(api.MaxNodes + 1), {{}, {}}}
	for range 100 {
		lists = append(lists, shuffled(r, anyDag(r, r.Intn(20))))
	}
	for _, l := range lists {
		l = spare(l)
		before := slices.Clone(l[:cap(l)])
		for _, ref := range []string{"A", "B", "", "A0", "B1", "C2"} {
			dag.Check(ref, l...)
			dag.Needs(ref, l...)
		}
		dag.Order(l...)
		for _, n := range l {
			dag.Inputs(n)
		}
		if !slices.Equal(l[:cap(l)], before) {
			t.Fatalf("%s became %s", brief(before), brief(l[:cap(l)]))
		}
	}
}

// spoil writes over a list, and over its spare room.
func spoil(l []string) {
	for i := range l[:cap(l)] {
		l[:cap(l)][i] = "spoilt"
	}
}

// P12.1, P12.3, P12.4: what is answered is new each time.
func TestAnswersAreNew(t *testing.T) {
	l := []api.Node{query("A"), reduce("B", "A"), expr("C", "$B > 1 && $D"), threshold("D", "A", "in")}
	for range 3 {
		for i, want := range []string{"", "A", "B D", "A"} {
			got := dag.Inputs(l[i])
			hangsOn(t, l[i], want)
			spoil(got)
			hangsOn(t, l[i], want)
		}
		order, _ := dag.Order(l...)
		spoil(order)
		orders(t, "A B D C", l...)
		spoil(dag.Needs("C", l...))
		needs(t, "C", "A B C D", l...)
	}
	first, _ := dag.Order(l...)
	second, _ := dag.Order(l...)
	spoil(second)
	if !slices.Equal(first, []string{"A", "B", "D", "C"}) {
		t.Errorf("%s", first)
	}
}
