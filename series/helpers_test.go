package series_test

import (
	"math/rand"
	"slices"
	"strconv"
	"strings"
	"testing"

	"klaxon/api"
	"klaxon/series"
)

const maxNum = int64(api.MaxNum)

// num is a number of thousandths, made without the layer below.
func num(n int64) api.Value { return api.Value{Kind: api.ValueNum, N: n} }

// The other values, made without the layer below.
var (
	null  = api.Value{Kind: api.ValueNull}
	nan   = api.Value{Kind: api.ValueNaN}
	plus  = api.Value{Kind: api.ValuePlus}
	minus = api.Value{Kind: api.ValueMinus}
)

// noValues is what is no value.
func noValues() []api.Value {
	return []api.Value{
		{}, {N: 1}, {Kind: -1}, {Kind: 6}, {Kind: 1 << 40}, num(maxNum + 1), num(-maxNum - 1), num(-1 << 63),
		{Kind: api.ValueNull, N: 1}, {Kind: api.ValueNaN, N: -1}, {Kind: api.ValuePlus, N: 1000}, {Kind: api.ValueMinus, N: -maxNum},
	}
}

// list is labels of names and values in turn, in the order that they come in.
func list(words ...string) []api.Label {
	var l []api.Label
	for i := 0; i < len(words); i += 2 {
		l = append(l, api.Label{Name: words[i], Value: words[i+1]})
	}
	return l
}

// noSets is what is no set of labels.
func noSets() [][]api.Label {
	return [][]api.Label{
		list("", ""), list("a", ""), list("", "1"), list("1", "1"), list("a-b", "1"), list("ä", "1"),
		list("b", "1", "a", "1"), list("a", "1", "c", "1", "b", "1"), list("a", "1", "B", "1"),
		list("a", "1", "a", "1"), list("a", "1", "a", "2"), list("a", "2", "a", "1"),
		list(strings.Repeat("a", api.MaxName+1), "1"), list("a", strings.Repeat("1", api.MaxLabel+1)),
		wide(api.MaxLabels + 1), wide(1000),
	}
}

// wide is a set of so many labels.
func wide(n int) []api.Label {
	var l []api.Label
	for i := range n {
		l = append(l, api.Label{Name: "n" + strconv.Itoa(1000+i), Value: strconv.Itoa(i)})
	}
	return l
}

// of is a series of a number, with labels of names and values in turn.
func of(n int64, words ...string) api.Series {
	return api.Series{Labels: list(words...), Value: num(n)}
}

// many is a frame of so many series, each with one label of this name.
func many(n int, name string) []api.Series {
	var l []api.Series
	for i := range n {
		l = append(l, of(int64(i), name, strconv.Itoa(100000+i)))
	}
	return l
}

func same(a, b []api.Series) bool {
	return slices.EqualFunc(a, b, func(x, y api.Series) bool {
		return x.Value == y.Value && slices.Equal(x.Labels, y.Labels)
	})
}

// clone is the series with nothing of them shared.
func clone(l []api.Series) []api.Series {
	l = slices.Clone(l)
	for i := range l {
		l[i].Labels = slices.Clone(l[i].Labels)
	}
	return l
}

func shuffled[T any](r *rand.Rand, l []T) []T {
	l = slices.Clone(l)
	r.Shuffle(len(l), func(i, j int) { l[i], l[j] = l[j], l[i] })
	return l
}

// is asks that an answer is just this frame.
func is(t *testing.T, what string, got []api.Series, err api.Errno, want []api.Series) {
	t.Helper()
	if err != api.OK || !same(got, want) {
		t.Fatalf("%s: %v, error %d, want %v", what, got, err, want)
	}
}

// refuses asks that an answer is none, with this error.
func refuses(t *testing.T, what string, got []api.Series, err, want api.Errno) {
	t.Helper()
	if err != want || got != nil {
		t.Fatalf("%s: %d series, error %d, want %d", what, len(got), err, want)
	}
}

func isJoined(t *testing.T, op string, a, b, want []api.Series) {
	t.Helper()
	got, err := series.Join(op, a, b)
	is(t, "Join "+op, got, err, want)
}

// rank is where a set stands among others: texts whose order is that of P9.5,
// for no name and no value has a byte 0 or 1 here.
func rank(l []api.Label) string {
	var b strings.Builder
	for _, x := range l {
		b.WriteString(x.Name + "\x00" + x.Value + "\x00")
	}
	return b.String()
}

// saidFrame is what P10.2 says of series that have sets and values.
func saidFrame(l []api.Series) ([]api.Series, api.Errno) {
	by := map[string]api.Series{}
	for _, s := range l {
		by[rank(s.Labels)] = s
	}
	if len(by) < len(l) {
		return nil, api.ErrThere
	}
	if len(l) > 200 {
		return nil, api.ErrMany
	}
	var ranks []string
	for k := range by {
		ranks = append(ranks, k)
	}
	slices.Sort(ranks)
	var frame []api.Series
	for _, k := range ranks {
		frame = append(frame, by[k])
	}
	return frame, api.OK
}

// saidFit is the labels of two that fit (P10.4): the greater one of both.
func saidFit(a, b []api.Label) ([]api.Label, bool) {
	if len(a) < len(b) {
		a, b = b, a
	}
	for _, x := range b {
		if !slices.Contains(a, x) {
			return nil, false
		}
	}
	return a, true
}

// anyLabels is a set of few names and values, so that sets often fit.
func anyLabels(r *rand.Rand, most int) []api.Label {
	var l []api.Label
	for _, name := range []string{"A", "_", "a", "aa", "b", "c"} {
		if r.Intn(6) < most {
			l = append(l, api.Label{Name: name, Value: []string{"x", "x", "y", "xx", "\xff", `"`}[r.Intn(6)]})
		}
	}
	return l
}

// anyFrame is series of unlike Labels, in any order.
func anyFrame(r *rand.Rand, count, most int) []api.Series {
	var l []api.Series
	seen := map[string]bool{}
	for range count {
		set := anyLabels(r, r.Intn(most+1))
		if !seen[rank(set)] {
			seen[rank(set)] = true
			l = append(l, api.Series{Labels: set, Value: anyValue(r)})
		}
	}
	return l
}

// anyValue is mostly a number, as often short as long.
func anyValue(r *rand.Rand) api.Value {
	if r.Intn(6) == 0 {
		return []api.Value{null, nan, plus, minus}[r.Intn(4)]
	}
	return anyNumber(r)
}

func anyNumber(r *rand.Rand) api.Value {
	n := r.Int63n(2*maxNum+1) - maxNum
	for range r.Intn(16) {
		n /= 10
	}
	return num(n)
}
