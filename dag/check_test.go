package dag_test

import (
	"math/rand"
	"slices"
	"strconv"
	"strings"
	"testing"

	"klaxon/api"
)

// P12.2
func TestCheckOfNodesThatMayBe(t *testing.T) {
	a, b, c := query("A"), reduce("B", "A"), expr("C", "$B > 1")
	for _, l := range permutations([]api.Node{a, b, c, threshold("D", "B", "out")}) {
		for _, condition := range []string{"A", "B", "C", "D"} {
			checks(t, api.OK, condition, l...)
		}
	}
	checks(t, api.OK, "A", a)
	checks(t, api.OK, "C", expr("C", "1"))
	checks(t, api.OK, "A", a, query("B"), query("C"))
	checks(t, api.OK, "D", a, b, expr("D", "$A + $B + $A"), expr("E", "$D"))
}

// P12.2: how many nodes there may be.
func TestCheckOfTooManyNodes(t *testing.T) {
	checks(t, api.OK, "Q100", queries(api.MaxNodes)...)
	checks(t, api.OK, "Q115", queries(api.MaxNodes)...)
	checks(t, api.ErrMany, "Q100", queries(api.MaxNodes+1)...)
	checks(t, api.ErrMany, "Q100", queries(1000)...)
	chain := []api.Node{query("A0")}
	for i := range api.MaxNodes - 1 {
		chain = append(chain, reduce("A"+strconv.Itoa(i+1), "A"+strconv.Itoa(i)))
	}
	checks(t, api.OK, "A15", chain...)
	slices.Reverse(chain)
	checks(t, api.OK, "A15", chain...)
}

// P12.2: a condition must be a node's ref, so that there is no rule of no nodes.
func TestCheckOfConditions(t *testing.T) {
	checks(t, api.ErrNone, "")
	checks(t, api.ErrNone, "A")
	checks(t, api.ErrNone, "", []api.Node{}...)
	for _, condition := range append(noRefs(), "B", "AA", "A0", "Q", "s", "mean") {
		checks(t, api.ErrNone, condition, query("A"), reduce("C", "A"))
	}
}

// P12.2: a ref is a letter A to Z, and then letters, digits and _.
func TestCheckOfRefs(t *testing.T) {
	for _, ref := range []string{"A", "Z", "AA", "Az", "A0", "A_", "A9z_Z", strings.Repeat("A", api.MaxRef)} {
		checks(t, api.OK, ref, query(ref))
		checks(t, api.OK, "B_", query(ref), reduce("B_", ref))
		checks(t, api.OK, "B_", query(ref), expr("B_", "$"+ref))
	}
	for _, ref := range noRefs() {
		for _, n := range []api.Node{query(ref), reduce(ref, "In"), expr(ref, "$In"), threshold(ref, "In", "gt")} {
			checksOne(t, api.ErrNode, n)
		}
	}
}

// P12.2
func TestCheckOfKinds(t *testing.T) {
	for _, kind := range noKinds() {
		for _, n := range []api.Node{query("A"), reduce("A", "In"), expr("A", "$In"), threshold("A", "In", "in"), {Ref: "A"}} {
			n.Kind = kind
			checksOne(t, api.ErrNode, n)
		}
	}
	// What is right of one Kind is wrong of each other one.
	for _, n := range []api.Node{query("A"), reduce("A", "In"), expr("A", "$In"), threshold("A", "In", "in")} {
		for kind := api.NodeQuery; kind <= api.NodeThreshold; kind++ {
			want := api.ErrNode
			if n.Kind == kind {
				want = api.OK
			}
			other := n
			other.Kind = kind
			checksOne(t, want, other)
			checksOne(t, api.ErrNode, api.Node{Ref: "A", Kind: kind})
		}
	}
}

// P12.2
func TestCheckOfSources(t *testing.T) {
	for _, source := range []string{"s", " ", "\x00", "\xff", "ä", strings.Repeat("s", api.MaxSource), strings.Repeat("\xff", api.MaxSource), strings.Repeat("ä", api.MaxSource/2)} {
		checksOne(t, api.OK, api.Node{Ref: "A", Kind: api.NodeQuery, Source: source})
	}
	for _, source := range []string{"", strings.Repeat("s", api.MaxSource+1), strings.Repeat("ä", api.MaxSource/2) + "s", strings.Repeat("s", 100000)} {
		checksOne(t, api.ErrNode, api.Node{Ref: "A", Kind: api.NodeQuery, Source: source})
	}
}

// P12.2
func TestCheckOfWaysToReduce(t *testing.T) {
	for _, how := range waysToReduce() {
		for _, strict := range []bool{false, true} {
			checksOne(t, api.OK, api.Node{Ref: "A", Kind: api.NodeReduce, Input: "In", How: how, Strict: strict})
		}
	}
	for _, how := range append(waysToBound(), "", " ", "Mean", "MEAN", "mean ", " mean", "avg", "first", "sums", "su", "last\x00", "abs", "+", strings.Repeat("sum", 1000)) {
		for _, strict := range []bool{false, true} {
			checksOne(t, api.ErrNode, api.Node{Ref: "A", Kind: api.NodeReduce, Input: "In", How: how, Strict: strict})
		}
	}
}

// P12.2
func TestCheckOfTexts(t *testing.T) {
	for _, text := range []string{"1", "null", "$In", " $In ", "$In+$In", "-abs($In)>=1.5&&!$In", "$In" + strings.Repeat(" ", api.MaxExpr-3), strings.Repeat("-", api.MaxNest) + "$In"} {
		checksOne(t, api.OK, expr("A", text))
	}
	for _, text := range noTrees() {
		checksOne(t, api.ErrNode, expr("A", text))
	}
}

// P12.2
func TestCheckOfWaysToBound(t *testing.T) {
	for _, how := range waysToBound() {
		checksOne(t, api.OK, threshold("A", "In", how))
	}
	for _, how := range append(waysToReduce(), "", " ", "GT", "Gt", "gt ", " gt", "g", "gte", "ge", "eq", ">", "<", "inn", "i", "outs", "ou", "in\x00", "between") {
		n := threshold("A", "In", "gt")
		n.How = how
		checksOne(t, api.ErrNode, n)
		n = threshold("A", "In", "in")
		n.How = how
		checksOne(t, api.ErrNode, n)
	}
}

// P12.2: bounds are values that are neither null nor NaN, whichever is greater.
func TestCheckOfBounds(t *testing.T) {
	bounds := []api.Value{num(0), num(1), num(-1500), num(maxNum), num(-maxNum), plus, minus}
	wrong := append(noValues(), null, nan)
	for _, low := range bounds {
		checksOne(t, api.OK, api.Node{Ref: "A", Kind: api.NodeThreshold, Input: "In", How: "gt", Low: low})
		checksOne(t, api.OK, api.Node{Ref: "A", Kind: api.NodeThreshold, Input: "In", How: "lt", Low: low})
		for _, high := range bounds {
			checksBounds(t, api.OK, low, high, "in", "out")
			checksBounds(t, api.ErrNode, low, high, "gt", "lt")
		}
		for _, bad := range wrong {
			checksBounds(t, api.ErrNode, low, bad, "in", "out")
			checksBounds(t, api.ErrNode, bad, low, waysToBound()...)
			if bad != (api.Value{}) {
				checksBounds(t, api.ErrNode, low, bad, "gt", "lt")
			}
		}
	}
	for _, low := range wrong {
		for _, high := range wrong {
			checksBounds(t, api.ErrNode, low, high, waysToBound()...)
		}
	}
}

func checksBounds(t *testing.T, want api.Errno, low, high api.Value, ways ...string) {
	t.Helper()
	for _, how := range ways {
		checksOne(t, want, api.Node{Ref: "A", Kind: api.NodeThreshold, Input: "In", How: how, Low: low, High: high})
	}
}

// field is a field of a node, as nodes that have it set otherwise than zero.
type field struct {
	name string
	set  []func(n *api.Node)
}

func fields() []field {
	all := []field{
		{"Source", []func(n *api.Node){func(n *api.Node) { n.Source = "s" }, func(n *api.Node) { n.Source = "\x00" }}},
		{"Input", []func(n *api.Node){func(n *api.Node) { n.Input = "In" }}},
		{"How", []func(n *api.Node){func(n *api.Node) { n.How = "mean" }, func(n *api.Node) { n.How = "in" }, func(n *api.Node) { n.How = " " }}},
		{"Strict", []func(n *api.Node){func(n *api.Node) { n.Strict = true }}},
		{"Low", nil}, {"High", nil},
		{"Text", []func(n *api.Node){func(n *api.Node) { n.Text = "1" }, func(n *api.Node) { n.Text = " " }}},
	}
	for _, v := range append(noValues()[1:], num(0), num(5), null, nan, plus, minus) {
		all[4].set = append(all[4].set, func(n *api.Node) { n.Low = v })
		all[5].set = append(all[5].set, func(n *api.Node) { n.High = v })
	}
	return all
}

// P12.2: a field that has no part is zero, for each field and each Kind.
func TestCheckOfFieldsWithoutAPart(t *testing.T) {
	asked := 0
	for _, c := range []struct {
		n     api.Node
		parts string
	}{
		{query("A"), "Source"},
		{reduce("A", "In"), "Input How Strict"},
		{expr("A", "$In"), "Text"},
		{threshold("A", "In", "gt"), "Input How Low"},
		{threshold("A", "In", "lt"), "Input How Low"},
		{threshold("A", "In", "in"), "Input How Low High"},
		{threshold("A", "In", "out"), "Input How Low High"},
	} {
		checksOne(t, api.OK, c.n)
		for _, f := range fields() {
			if slices.Contains(strings.Fields(c.parts), f.name) {
				continue
			}
			for _, set := range f.set {
				n := c.n
				set(&n)
				checksOne(t, api.ErrNode, n)
				asked++
			}
		}
	}
	if asked < 100 {
		t.Errorf("only %d fields were set", asked)
	}
}

// P12.2
func TestCheckOfTwoNodesOfOneRef(t *testing.T) {
	a := query("A")
	all := []api.Node{a, reduce("A", "B"), expr("A", "$B"), threshold("A", "B", "lt"), query("A"), expr("A", "$A"), expr("A", "$Gone")}
	for _, n := range all {
		for _, m := range all {
			checks(t, api.ErrThere, "A", n, m)
			checks(t, api.ErrThere, "A", n, query("B"), m)
			checks(t, api.ErrThere, "B", query("C"), m, n, query("B"))
			checks(t, api.ErrThere, "Gone", n, m)
		}
	}
	checks(t, api.ErrThere, "A", make16("A")...)
	checks(t, api.OK, "A", a, query("AA"), query("Aa"), query("A0"), query("A_"))
}

// make16 is as many nodes as there may be, the last two of one ref.
func make16(ref string) []api.Node {
	return append(queries(api.MaxNodes-2), query(ref), query(ref))
}

// P12.2: what a node hangs on is a node's ref.
func TestCheckOfInputsThatAreNone(t *testing.T) {
	for _, input := range append(noRefs(), "B", "AA", "Z") {
		checks(t, api.ErrNone, "A", query("A"), reduce("C", input))
		checks(t, api.ErrNone, "C", query("A"), threshold("C", input, "out"))
		checks(t, api.ErrNone, "C", reduce("C", input))
	}
	for _, text := range []string{"$B", "$A+$B", "$B+$A", "$A+$Z+$C", "abs(-($AA))"} {
		checks(t, api.ErrNone, "A", query("A"), expr("C", text), query("D"))
		checks(t, api.ErrNone, "A", expr("C", text), query("A"))
	}
	// Not even where the condition has no need of it.
	checks(t, api.ErrNone, "A", query("A"), query("B"), expr("C", "$D"))
}

// P12.2: a circle anywhere, be it of one node.
func TestCheckOfCircles(t *testing.T) {
	for _, l := range [][]api.Node{
		{expr("A", "$A")}, {reduce("A", "A")}, {threshold("A", "A", "gt")}, {expr("A", "1 + abs($A)")},
		circle("A", "B"), {reduce("A", "B"), threshold("B", "A", "in")},
		circle("A", "B", "C"), circle("C", "A", "B", "D"),
		{hangs("A"), hangs("B", "A", "C"), hangs("C", "A", "B")},
	} {
		for _, handed := range turned(l) {
			checks(t, api.ErrCycle, "A", handed...)
			checks(t, api.ErrCycle, "Other", append(handed, query("Other"))...)
			checks(t, api.ErrCycle, "Other", append([]api.Node{query("Other"), hangs("Behind", "A")}, handed...)...)
		}
	}
	var refs []string
	for i := range api.MaxNodes {
		refs = append(refs, "R"+strconv.Itoa(i))
	}
	for _, handed := range turned(circle(refs...)) {
		checks(t, api.ErrCycle, "R0", handed...)
	}
	checks(t, api.ErrCycle, "Q100", append(queries(api.MaxNodes-2), circle("A", "B")...)...)
	// Two ways to one node are no circle.
	checks(t, api.OK, "D", hangs("D", "B", "C"), hangs("C", "A"), hangs("B", "A"), hangs("A"))
}

// P12.2: of several errors the first one that the document names, wherever the
// nodes stand that have them.
func TestCheckTellsTheFirstError(t *testing.T) {
	r := rand.New(rand.NewSource(1))
	faults := []struct {
		err api.Errno
		l   []api.Node
	}{
		{api.ErrMany, queries(api.MaxNodes)},
		{api.ErrNode, []api.Node{expr("N", "1 +")}},
		{api.ErrThere, []api.Node{query("T"), query("T")}},
		{api.ErrNone, []api.Node{hangs("H", "Gone")}},
		{api.ErrCycle, circle("X", "Y", "Z")},
	}
	for chosen := range 1 << len(faults) {
		want, all := api.OK, []api.Node{query("A")}
		for i, f := range faults {
			if chosen>>i&1 == 1 {
				all = append(all, f.l...)
				if want == api.OK {
					want = f.err
				}
			}
		}
		for range 10 {
			handed := shuffled(r, all)
			checks(t, want, "A", handed...)
			if want == api.OK || want == api.ErrCycle {
				checks(t, api.ErrNone, "Gone", handed...)
				checks(t, api.ErrNone, "", handed...)
			} else {
				checks(t, want, "Gone", handed...)
			}
		}
	}
}
