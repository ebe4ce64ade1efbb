package eval_test

import (
	"fmt"
	"math/rand"
	"slices"
	"strconv"
	"strings"
	"testing"

	"klaxon/api"
	"klaxon/eval"
)

const maxNum = int64(api.MaxNum)

// num is a number of thousandths, made without the layers below.
func num(n int64) api.Value { return api.Value{Kind: api.ValueNum, N: n} }

// The other values, made without the layers below, and the two truths.
var (
	null  = api.Value{Kind: api.ValueNull}
	nan   = api.Value{Kind: api.ValueNaN}
	plus  = api.Value{Kind: api.ValuePlus}
	minus = api.Value{Kind: api.ValueMinus}
	yes   = num(1000)
	no    = num(0)
)

// noValues is what is no value.
func noValues() []api.Value {
	return []api.Value{
		{}, {N: 1}, {Kind: -1}, {Kind: 6}, {Kind: 1 << 40}, num(maxNum + 1), num(-maxNum - 1), num(-1 << 63),
		{Kind: api.ValueNull, N: 1}, {Kind: api.ValueNaN, N: -1}, {Kind: api.ValuePlus, N: 1000}, {Kind: api.ValueMinus, N: -maxNum},
	}
}

// list is labels of names and values in turn, in the order that they come in.
func list(words ...string) []api.Label {
	var l []api.Label
	for i := 0; i < len(words); i += 2 {
		l = append(l, api.Label{Name: words[i], Value: words[i+1]})
	}
	return l
}

// noSets is what is no set of labels.
func noSets() [][]api.Label {
	return [][]api.Label{
		list("", ""), list("a", ""), list("", "1"), list("1", "1"), list("a-b", "1"),
		list("b", "1", "a", "1"), list("a", "1", "a", "1"), list("a", "1", "a", "2"),
		list(strings.Repeat("a", api.MaxName+1), "1"), list("a", strings.Repeat("1", api.MaxLabel+1)),
		wide(api.MaxLabels + 1),
	}
}

// wide is a set of so many labels.
func wide(n int) []api.Label {
	var l []api.Label
	for i := range n {
		l = append(l, api.Label{Name: "n" + strconv.Itoa(1000+i), Value: strconv.Itoa(i)})
	}
	return l
}

func waysToReduce() []string { return []string{"last", "min", "max", "sum", "mean", "count"} }

func query(ref string) api.Node {
	return api.Node{Ref: ref, Kind: api.NodeQuery, Source: "of " + ref}
}

func reduce(ref, input, how string) api.Node {
	return api.Node{Ref: ref, Kind: api.NodeReduce, Input: input, How: how}
}

func strictly(ref, input, how string) api.Node {
	return api.Node{Ref: ref, Kind: api.NodeReduce, Input: input, How: how, Strict: true}
}

func expr(ref, text string) api.Node {
	return api.Node{Ref: ref, Kind: api.NodeMath, Text: text}
}

// threshold has one bound or two, as its way has.
func threshold(ref, input, how string, bounds ...api.Value) api.Node {
	n := api.Node{Ref: ref, Kind: api.NodeThreshold, Input: input, How: how, Low: bounds[0]}
	if len(bounds) > 1 {
		n.High = bounds[1]
	}
	return n
}

// at is points of these values, each later than the one ahead of it.
func at(values ...api.Value) []api.Point {
	var l []api.Point
	for i, v := range values {
		l = append(l, api.Point{At: int64(i), Value: v})
	}
	return l
}

// from is points with labels of names and values in turn.
func from(l []api.Point, words ...string) api.Points {
	return api.Points{Labels: list(words...), Points: l}
}

func answer(ref string, l ...api.Points) api.Answer { return api.Answer{Ref: ref, Points: l} }

func failed(ref string, l ...api.Points) api.Answer {
	return api.Answer{Ref: ref, Failed: true, Points: l}
}

// of is a series of a value, with labels of names and values in turn.
func of(v api.Value, words ...string) api.Series {
	return api.Series{Labels: list(words...), Value: v}
}

// frame is what a node tells.
func frame(ref string, l ...api.Series) api.Frame { return api.Frame{Ref: ref, Series: l} }

// manyPoints is so many Points, each with one label of this name.
func manyPoints(n int, name string) []api.Points {
	var l []api.Points
	for i := range n {
		l = append(l, from(at(num(int64(i))), name, strconv.Itoa(100000+i)))
	}
	return l
}

func sameSeries(a, b []api.Series) bool {
	return slices.EqualFunc(a, b, func(x, y api.Series) bool {
		return x.Value == y.Value && slices.Equal(x.Labels, y.Labels)
	})
}

func sameFrames(a, b []api.Frame) bool {
	return slices.EqualFunc(a, b, func(x, y api.Frame) bool {
		return x.Ref == y.Ref && sameSeries(x.Series, y.Series)
	})
}

func sameResults(a, b []api.Result) bool {
	return slices.EqualFunc(a, b, func(x, y api.Result) bool {
		return x.Kind == y.Kind && x.Value == y.Value && slices.Equal(x.Labels, y.Labels)
	})
}

// tells asks that the frame of ref, the last one, is just these series.
func tells(t *testing.T, what, ref string, nodes []api.Node, answers []api.Answer, want ...api.Series) {
	t.Helper()
	got, err := eval.Frames(ref, nodes, answers...)
	if err != api.OK || len(got) == 0 {
		t.Fatalf("%s: %d frames, error %d", what, len(got), err)
	}
	if last := got[len(got)-1]; last.Ref != ref || !sameSeries(last.Series, want) {
		t.Fatalf("%s: %v, want %v of %s", what, last, want, ref)
	}
}

// frames asks that Frames are just these.
func frames(t *testing.T, what, ref string, nodes []api.Node, answers []api.Answer, want ...api.Frame) {
	t.Helper()
	got, err := eval.Frames(ref, nodes, answers...)
	if err != api.OK || !sameFrames(got, want) {
		t.Fatalf("%s: %v, error %d, want %v", what, got, err, want)
	}
}

// refuses asks that Frames are none, with this error, and that Eval is one result
// of it.
func refuses(t *testing.T, what string, want api.Errno, ref string, nodes []api.Node, answers ...api.Answer) {
	t.Helper()
	got, err := eval.Frames(ref, nodes, answers...)
	if err != want || got != nil {
		t.Fatalf("%s: %d frames, error %d, want %d", what, len(got), err, want)
	}
	results(t, what, ref, nodes, answers, api.Result{Kind: api.ResError, Value: null})
}

// results asks that Eval is just these.
func results(t *testing.T, what, condition string, nodes []api.Node, answers []api.Answer, want ...api.Result) {
	t.Helper()
	if got := eval.Eval(condition, nodes, answers...); !sameResults(got, want) {
		t.Fatalf("%s: %v, want %v", what, got, want)
	}
}

func shuffled[T any](r *rand.Rand, l []T) []T {
	l = slices.Clone(l)
	r.Shuffle(len(l), func(i, j int) { l[i], l[j] = l[j], l[i] })
	return l
}

func permutations[T any](l []T) [][]T {
	if len(l) == 0 {
		return [][]T{nil}
	}
	var all [][]T
	for i := range l {
		for _, rest := range permutations(slices.Delete(slices.Clone(l), i, i+1)) {
			all = append(all, append([]T{l[i]}, rest...))
		}
	}
	return all
}

// brief keeps long lists out of what a test tells.
func brief(x any) string {
	s := fmt.Sprintf("%+v", x)
	if len(s) > 1500 {
		return s[:1500] + ".."
	}
	return s
}
