package dag_test

import (
	"fmt"
	"math/rand"
	"slices"
	"strings"
	"testing"

	"klaxon/api"
	"klaxon/dag"
)

const maxNum = int64(api.MaxNum)

// num is a number of thousandths, made without the layers below.
func num(n int64) api.Value { return api.Value{Kind: api.ValueNum, N: n} }

// The other values, made without the layers below.
var (
	null  = api.Value{Kind: api.ValueNull}
	nan   = api.Value{Kind: api.ValueNaN}
	plus  = api.Value{Kind: api.ValuePlus}
	minus = api.Value{Kind: api.ValueMinus}
)

// noValues is what is no value; the first one is the zero Value.
func noValues() []api.Value {
	return []api.Value{
		{}, {N: 1}, {Kind: -1}, {Kind: 6}, {Kind: 1 << 40}, num(maxNum + 1), num(-maxNum - 1), num(-1 << 63),
		{Kind: api.ValueNull, N: 1}, {Kind: api.ValueNaN, N: -1}, {Kind: api.ValuePlus, N: 1000}, {Kind: api.ValueMinus, N: -maxNum},
	}
}

// noTrees is texts that are no expressions.
func noTrees() []string {
	return []string{
		"", " ", "1 +", "$", "$a", "$A $B", "$A + $b", "$A $", "A", "($A", "$A)", "abs $A", "1 < $A < 2", "01", "1.", "x", "\xff", "$A\x00", "\t$A",
		"$" + strings.Repeat("A", api.MaxRef+1),
		"$A" + strings.Repeat(" ", api.MaxExpr-1),
		strings.Repeat("-", api.MaxNest+1) + "$A",
	}
}

// noRefs is texts that are no refs.
func noRefs() []string {
	return []string{"", "a", "0", "_", " ", "$A", "A ", " A", "A-B", "aB", "Ä", "A\x00", "A\xff", strings.Repeat("A", api.MaxRef+1), strings.Repeat("A", 1000)}
}

// noKinds is numbers that are no Kind, those next to the first and the last ahead.
func noKinds() []int {
	return []int{api.NodeQuery - 1, api.NodeThreshold + 1, -1, -4, 100, 1 << 40, -1 << 63}
}

func waysToReduce() []string { return []string{"last", "min", "max", "sum", "mean", "count"} }

func waysToBound() []string { return []string{"gt", "lt", "in", "out"} }

func query(ref string) api.Node {
	return api.Node{Ref: ref, Kind: api.NodeQuery, Source: "s"}
}

func reduce(ref, input string) api.Node {
	return api.Node{Ref: ref, Kind: api.NodeReduce, Input: input, How: "mean"}
}

func expr(ref, text string) api.Node {
	return api.Node{Ref: ref, Kind: api.NodeMath, Text: text}
}

// threshold has the bounds that its way has.
func threshold(ref, input, how string) api.Node {
	n := api.Node{Ref: ref, Kind: api.NodeThreshold, Input: input, How: how, Low: num(1000)}
	if how == "in" || how == "out" {
		n.High = num(9000)
	}
	return n
}

// hangs is a math of this ref that hangs on these.
func hangs(ref string, inputs ...string) api.Node {
	text := "1"
	for _, input := range inputs {
		text += " + $" + input
	}
	return expr(ref, text)
}

// circle is nodes of which each hangs on the next one, and the last on the first.
func circle(refs ...string) []api.Node {
	var l []api.Node
	for i, ref := range refs {
		l = append(l, hangs(ref, refs[(i+1)%len(refs)]))
	}
	return l
}

// queries is so many nodes that hang on nothing.
func queries(n int) []api.Node {
	var l []api.Node
	for i := range n {
		l = append(l, query(fmt.Sprintf("Q%d", 100+i)))
	}
	return l
}

// checks asks for what Check answers.
func checks(t *testing.T, want api.Errno, condition string, l ...api.Node) {
	t.Helper()
	if err := dag.Check(condition, l...); err != want {
		t.Errorf("Check %q of %s: %d, want %d", condition, brief(l), err, want)
	}
}

// checksOne asks what Check answers of a node whose Input is there, and which
// the condition names.
func checksOne(t *testing.T, want api.Errno, n api.Node) {
	t.Helper()
	checks(t, want, n.Ref, n, query("In"))
	checks(t, want, n.Ref, query("In"), n)
	if want != api.OK {
		checks(t, want, "In", query("In"), n, query("Other"))
	}
}

// orders asks for the refs of Order, with blanks between, in whatever order the
// nodes are handed in.
func orders(t *testing.T, want string, l ...api.Node) {
	t.Helper()
	for _, handed := range turned(l) {
		got, err := dag.Order(handed...)
		if err != api.OK || strings.Join(got, " ") != want || len(got) != len(l) {
			t.Fatalf("Order of %s: %q, error %d, want %s", brief(handed), got, err, want)
		}
	}
}

// refuses asks that Order has no refs, but this error, in whatever order the
// nodes are handed in.
func refuses(t *testing.T, want api.Errno, l ...api.Node) {
	t.Helper()
	for _, handed := range turned(l) {
		if got, err := dag.Order(handed...); err != want || got != nil {
			t.Fatalf("Order of %s: %q, error %d, want %d", brief(handed), got, err, want)
		}
	}
}

// needs asks for the refs of Needs, in whatever order the nodes are handed in.
func needs(t *testing.T, ref, want string, l ...api.Node) {
	t.Helper()
	for _, handed := range turned(l) {
		got := dag.Needs(ref, handed...)
		if !slices.Equal(got, strings.Fields(want)) {
			t.Fatalf("Needs %q of %s: %q, want %s", ref, brief(handed), got, want)
		}
	}
}

// turned is all orders of a short list, and some of a long one.
func turned(l []api.Node) [][]api.Node {
	if len(l) <= 4 {
		return permutations(l)
	}
	r := rand.New(rand.NewSource(int64(len(l))))
	back := slices.Clone(l)
	slices.Reverse(back)
	all := [][]api.Node{l, back}
	for range 20 {
		all = append(all, shuffled(r, l))
	}
	return all
}

func permutations[T any](l []T) [][]T {
	if len(l) == 0 {
		return [][]T{nil}
	}
	var all [][]T
	for i := range l {
		for _, rest := range permutations(slices.Delete(slices.Clone(l), i, i+1)) {
			all = append(all, append([]T{l[i]}, rest...))
		}
	}
	return all
}

func shuffled[T any](r *rand.Rand, l []T) []T {
	l = slices.Clone(l)
	r.Shuffle(len(l), func(i, j int) { l[i], l[j] = l[j], l[i] })
	return l
}

// brief keeps long lists out of what a test tells.
func brief(l []api.Node) string {
	s := fmt.Sprintf("%+v", l)
	if len(s) > 600 {
		return fmt.Sprintf("%s.. (%d nodes)", s[:600], len(l))
	}
	return s
}
