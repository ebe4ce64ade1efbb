package dag_test

import (
	"slices"
	"strings"
	"testing"

	"klaxon/api"
	"klaxon/dag"
)

// hangsOn asks for the refs that a node hangs on, with blanks between.
func hangsOn(t *testing.T, n api.Node, want string) {
	t.Helper()
	if got := dag.Inputs(n); !slices.Equal(got, strings.Fields(want)) {
		t.Errorf("Inputs of %s: %q, want %s", brief([]api.Node{n}), got, want)
	}
}

// P12.1
func TestInputsOfEachKind(t *testing.T) {
	hangsOn(t, query("A"), "")
	hangsOn(t, reduce("B", "A"), "A")
	hangsOn(t, reduce("B", "B"), "B")
	for _, how := range waysToBound() {
		hangsOn(t, threshold("C", "B", how), "B")
	}
	hangsOn(t, expr("D", "$B > 1 && $A"), "A B")
	hangsOn(t, api.Node{}, "")
	long := strings.Repeat("Z", api.MaxRef)
	hangsOn(t, reduce("B", long), long)
	hangsOn(t, threshold("B", long, "gt"), long)
	hangsOn(t, expr("B", "$"+long), long)
}

// P12.1: the fields that a Kind gives no part have none here.
func TestInputsGoByKindAlone(t *testing.T) {
	full := api.Node{Ref: "R", Source: "s", Input: "I", How: "mean", Strict: true, Low: num(1), High: num(2), Text: "$T + $S"}
	for kind, want := range map[int]string{api.NodeQuery: "", api.NodeReduce: "I", api.NodeMath: "S T", api.NodeThreshold: "I"} {
		full.Kind = kind
		hangsOn(t, full, want)
	}
	for _, kind := range noKinds() {
		full.Kind = kind
		hangsOn(t, full, "")
	}
}

// P12.1: Input is what a reduce and a threshold hang on, be it a ref or not, and
// be the node one that may be or not.
func TestInputsOfNodesThatMayNotBe(t *testing.T) {
	for _, input := range noRefs() {
		for _, n := range []api.Node{reduce("B", input), threshold("B", input, "gt"), {Kind: api.NodeReduce, Input: input}, {Kind: api.NodeThreshold, Input: input}} {
			if got := dag.Inputs(n); !slices.Equal(got, []string{input}) {
				t.Errorf("Inputs of %+v: %q", n, got)
			}
		}
	}
	for _, text := range noTrees() {
		hangsOn(t, expr("B", text), "")
	}
	hangsOn(t, expr("", "$A"), "A")
	hangsOn(t, expr("no ref", "$A"), "A")
}

// P12.1: of a math they are rising, byte by byte, each once.
func TestInputsOfMath(t *testing.T) {
	for text, want := range map[string]string{
		"1": "", "null": "", "nan": "", "-inf": "", "abs(1)": "",
		"$A": "A", " $A ": "A", "-$A": "A", "abs($A)": "A", "is_null(($A))": "A", "$A+$A": "A", "$A*2-abs($A)/$A": "A",
		"$A+$B": "A B", "$B+$A": "A B", "$B+$A*$C": "A B C", "$C||$B||$A||$B||$C": "A B C",
		"$Z+$AA+$A+$A_+$A0+$Aa+$A9": "A A0 A9 AA A_ Aa Z",
		"$B10 + $B9 + $B1":          "B1 B10 B9",
	} {
		hangsOn(t, expr("R", text), want)
	}
	// As many as a text has room for.
	var refs []string
	text := ""
	for a := 'A'; a <= 'Z'; a++ {
		for b := 'a'; b <= 'z' && len(text)+4 < api.MaxExpr; b++ {
			refs = append(refs, string([]rune{a, b}))
			text = "$" + string([]rune{a, b}) + "+" + text
		}
	}
	hangsOn(t, expr("R", text+"1"), strings.Join(refs, " "))
	hangsOn(t, expr("R", "$A"+strings.Repeat(" ", api.MaxExpr-2)), "A")
	hangsOn(t, expr("R", strings.Repeat("-", api.MaxNest)+"$A"), "A")
}
