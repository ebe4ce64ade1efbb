package eval_test

import (
	"slices"
	"strconv"
	"testing"

	"klaxon/api"
	"klaxon/eval"
)

func source(ref, name string) api.Node {
	return api.Node{Ref: ref, Kind: api.NodeQuery, Source: name}
}

// needs asks for the sources of a condition, in whatever order nodes are handed
// in.
func needs(t *testing.T, condition string, nodes []api.Node, want ...string) {
	t.Helper()
	for _, l := range permutations(nodes) {
		if got := eval.Sources(condition, l...); !slices.Equal(got, want) {
			t.Fatalf("Sources %q of %s: %q, want %q", condition, brief(l), got, want)
		}
	}
}

// P13.4
func TestSources(t *testing.T) {
	nodes := []api.Node{
		source("A", "mem"), source("B", "cpu"), source("C", "disk"), reduce("D", "A", "sum"),
		expr("E", "$D + $B"), threshold("F", "C", "gt", num(1)),
	}
	needs(t, "A", nodes, "mem")
	needs(t, "B", nodes, "cpu")
	needs(t, "D", nodes, "mem")
	needs(t, "E", nodes, "cpu", "mem")
	needs(t, "F", nodes, "disk")
	needs(t, "G", nodes)
	needs(t, "", nodes)
	needs(t, "cpu", nodes)
	needs(t, "A", nil)
	needs(t, "A", []api.Node{expr("A", "1")})
}

// P13.4: each once, byte by byte.
func TestSourcesThatRepeat(t *testing.T) {
	needs(t, "D", []api.Node{source("A", "s"), source("B", "s"), source("C", "s"), expr("D", "$A + $B + $C")}, "s")
	needs(t, "D", []api.Node{source("A", "b"), source("B", "a"), source("C", "b"), expr("D", "$A + $B + $C")}, "a", "b")
	needs(t, "E", []api.Node{source("A", "aa"), source("B", "B"), source("C", "\xff"), source("D", "a"), expr("E", "$A + $B + $C + $D")}, "B", "a", "aa", "\xff")
	var nodes []api.Node
	text, want := "1", []string{}
	for i := range 15 {
		nodes = append(nodes, source("Q"+strconv.Itoa(i), "s"+strconv.Itoa((i*7+3)%5)))
		text += " + $Q" + strconv.Itoa(i)
	}
	for i := range 5 {
		want = append(want, "s"+strconv.Itoa(i))
	}
	if got := eval.Sources("X", append(nodes, expr("X", text))...); !slices.Equal(got, want) {
		t.Errorf("%q, want %q", got, want)
	}
}

// P13.4: nodes need not be such as may be; of two of one ref the first one counts.
func TestSourcesOfNodesThatMayNotBe(t *testing.T) {
	for _, c := range []struct {
		name, condition string
		nodes           []api.Node
		want            []string
	}{
		{"no source", "A", []api.Node{source("A", "")}, []string{""}},
		{"no ref", "", []api.Node{source("", "s")}, []string{"s"}},
		{"of two the query first", "B", []api.Node{source("A", "one"), source("A", "two"), expr("B", "$A")}, []string{"one"}},
		{"of two the other first", "B", []api.Node{expr("B", "$A"), source("A", "two"), source("A", "one")}, []string{"two"}},
		{"a query behind a math of its ref", "A", []api.Node{expr("A", "$B"), source("A", "one"), source("B", "two")}, []string{"two"}},
		{"a math behind a query of its ref", "A", []api.Node{source("A", "one"), expr("A", "$B"), source("B", "two")}, []string{"one"}},
		{"a circle", "A", []api.Node{expr("A", "$B + $C"), expr("B", "$A"), source("C", "s")}, []string{"s"}},
		{"on itself", "A", []api.Node{reduce("A", "A", "sum"), source("C", "s")}, nil},
		{"an input that is none", "A", []api.Node{expr("A", "$B + $C"), source("C", "s")}, []string{"s"}},
		{"a Source of what is no query", "A", []api.Node{{Ref: "A", Kind: api.NodeReduce, Input: "B", Source: "one"}, {Ref: "B", Kind: 9, Source: "two"}}, nil},
		{"a query with an Input", "A", []api.Node{{Ref: "A", Kind: api.NodeQuery, Source: "one", Input: "B"}, source("B", "two")}, []string{"one"}},
	} {
		if got := eval.Sources(c.condition, c.nodes...); !slices.Equal(got, c.want) {
			t.Errorf("%s: %q, want %q", c.name, got, c.want)
		}
	}
}

// P13.4: more nodes than a rule may have.
func TestSourcesOfManyNodes(t *testing.T) {
	const count = 20000
	nodes := []api.Node{source("N0", "s")}
	for i := 1; i < count; i++ {
		nodes = append(nodes, reduce("N"+strconv.Itoa(i), "N"+strconv.Itoa(i-1), "sum"))
	}
	if got := eval.Sources("N"+strconv.Itoa(count-1), nodes...); !slices.Equal(got, []string{"s"}) {
		t.Errorf("%q", got)
	}
}
