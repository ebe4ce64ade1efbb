package board_test

import (
	"fmt"
	"math"
	"reflect"
	"slices"
	"strconv"
	"strings"
	"testing"

	"klaxon/api"
	"klaxon/board"
)

const (
	never   = -1
	maxTime = 1 << 40
	maxNum  = 1000000000000000
)

// The values, without the layers below.
var (
	null  = api.Value{Kind: api.ValueNull}
	nan   = api.Value{Kind: api.ValueNaN}
	plus  = api.Value{Kind: api.ValuePlus}
	minus = api.Value{Kind: api.ValueMinus}
)

func num(n int64) api.Value { return api.Value{Kind: api.ValueNum, N: n} }

func someValues() []api.Value {
	return []api.Value{num(0), num(1), num(-1500), num(maxNum), num(-maxNum), null, nan, plus, minus}
}

// noValues is what is no value.
func noValues() []api.Value {
	return []api.Value{
		{}, {N: 1}, {Kind: -1}, {Kind: 6}, {Kind: 1 << 40}, num(maxNum + 1), num(-maxNum - 1), num(math.MinInt64),
		{Kind: api.ValueNull, N: 1}, {Kind: api.ValueNaN, N: -1}, {Kind: api.ValuePlus, N: 1000}, {Kind: api.ValueMinus, N: -maxNum},
	}
}

func allStates() []int {
	return []int{api.StateNormal, api.StatePending, api.StateAlerting, api.StateNoData, api.StateError}
}

// noResults is kinds of which no result is.
func noResults() []int { return []int{0, 5, 6, -1, -3, 1<<32 + 3, math.MaxInt, math.MinInt} }

// list is labels of names and values in turn, in the order that they come in.
func list(words ...string) []api.Label {
	var l []api.Label
	for i := 0; i < len(words); i += 2 {
		l = append(l, api.Label{Name: words[i], Value: words[i+1]})
	}
	return l
}

// host is the set {h s}.
func host(s string) []api.Label { return list("h", s) }

// wide is a set of so many labels.
func wide(n int) []api.Label {
	var l []api.Label
	for i := range n {
		l = append(l, api.Label{Name: "n" + strconv.Itoa(1000+i), Value: strconv.Itoa(i)})
	}
	return l
}

// unmakable is lists of labels of which there is no set.
func unmakable() [][]api.Label {
	return [][]api.Label{
		list("", ""), list("a", ""), list("", "1"), list("1", "1"), list("a-b", "1"), list("ä", "1"), list("a ", "1"), list("a\x00", "1"),
		list("a", "1", "b", ""), list("a", "1", "b-", "1"),
		list("a", "1", "a", "1"), list("a", "1", "a", "2"), list("a", "1", "b", "1", "b", "2"), list("a", "1", "b", "1", "a", "1"),
		list(strings.Repeat("a", api.MaxName+1), "1"), list("a", strings.Repeat("1", api.MaxLabel+1)),
		wide(api.MaxLabels + 1), wide(1000),
	}
}

// noSets is lists of labels that are no sets.
func noSets() [][]api.Label {
	turned := wide(api.MaxLabels)
	slices.Reverse(turned)
	return append(unmakable(),
		list("b", "1", "a", "1"), list("a", "1", "c", "1", "b", "1"), list("a", "1", "B", "1"), list("a", "1", "Z", "1", "b", "1"), turned)
}

// instance is one of that state since that time, which had this value when it
// was seen. What breaches does so since then.
func instance(kind int, since, seen int64, v api.Value) api.Instance {
	x := api.Instance{State: kind, Since: since, From: never, Quiet: never, Seen: seen, Value: v}
	if kind == api.StatePending || kind == api.StateAlerting {
		x.From = since
	}
	return x
}

// seenAt is an instance of that state that was seen then.
func seenAt(kind int, seen int64) api.Instance { return instance(kind, 3, seen, num(7)) }

func entry(l []api.Label, x api.Instance) api.Entry { return api.Entry{Labels: l, Instance: x} }

// hosts is a board with an entry of each state and host, {h 1} in StateNormal to
// {h 5} in StateError, all seen then.
func hosts(seen int64) []api.Entry {
	var b []api.Entry
	for _, kind := range allStates() {
		b = append(b, entry(host(strconv.Itoa(kind)), seenAt(kind, seen)))
	}
	return b
}

// numbered is the set of a host that has a number.
func numbered(i int) []api.Label { return host(strconv.Itoa(1000 + i)) }

// many is a board of so many entries, of each state in turn, seen at 90.
func many(n int) []api.Entry {
	var b []api.Entry
	for i := range n {
		b = append(b, entry(numbered(i), seenAt(1+i%5, 90)))
	}
	return b
}

// unmaking is instances that may not be.
func unmaking() []api.Instance {
	ofState := func(x api.Instance, do func(x *api.Instance)) api.Instance {
		do(&x)
		return x
	}
	normal, pending := seenAt(api.StateNormal, 90), seenAt(api.StatePending, 90)
	l := []api.Instance{
		{},
		ofState(normal, func(x *api.Instance) { x.State = 0 }),
		ofState(normal, func(x *api.Instance) { x.State = 6 }),
		ofState(normal, func(x *api.Instance) { x.State = 1<<32 + 1 }),
		ofState(normal, func(x *api.Instance) { x.Since = never }),
		ofState(normal, func(x *api.Instance) { x.Since = maxTime + 1 }),
		ofState(normal, func(x *api.Instance) { x.From = 5 }),
		ofState(pending, func(x *api.Instance) { x.From = never }),
		ofState(pending, func(x *api.Instance) { x.From = -2 }),
		ofState(pending, func(x *api.Instance) { x.Quiet = 5 }),
		ofState(normal, func(x *api.Instance) { x.Seen = never }),
		ofState(normal, func(x *api.Instance) { x.Seen = maxTime + 1 }),
	}
	for _, v := range noValues() {
		l = append(l, ofState(normal, func(x *api.Instance) { x.Value = v }))
	}
	return l
}

func result(l []api.Label, kind int, v api.Value) api.Result {
	return api.Result{Labels: l, Kind: kind, Value: v}
}

// holds is of the policy PolicyState, and holds nothing.
func holds() api.Holds {
	return api.Holds{NoData: api.PolicyState, OnError: api.PolicyState}
}

func change(l []api.Label, from, to int, v api.Value) api.Change {
	return api.Change{Labels: l, From: from, To: to, Value: v}
}

// over is the change of what was in that state and is taken away.
func over(l []api.Label, from int) api.Change { return change(l, from, api.StateNormal, null) }

// update is what Update is handed.
type update struct {
	b        []api.Entry
	h        api.Holds
	own      []api.Label
	interval int64
	now      int64
	l        []api.Result
}

func (u update) do() ([]api.Entry, []api.Change) {
	return board.Update(u.b, u.h, u.own, u.interval, u.now, u.l...)
}

// at100 is an update of b at 100 in an interval of 10, in which what was seen at
// 80 is taken away.
func at100(b []api.Entry, l ...api.Result) update {
	return update{b: b, h: holds(), interval: 10, now: 100, l: l}
}

func (u update) with(own ...api.Label) update {
	u.own = own
	return u
}

// comes asks that the update comes to this board, and to these changes, and that
// the document's second reading does so.
func comes(t *testing.T, what string, u update, want []api.Entry, changes ...api.Change) {
	t.Helper()
	if err := board.Check(u.b); err != api.OK {
		t.Fatalf("%s: of no board: error %d", what, err)
	}
	b, c := u.do()
	if !sameBoard(b, want) || !sameChanges(c, changes) {
		t.Errorf("%s:\n%s\n%s, want\n%s\n%s", what, brief(b), brief(c), brief(want), brief(changes))
	}
	if b, c = saidUpdate(u); !sameBoard(b, want) || !sameChanges(c, changes) {
		t.Errorf("%s, the second reading:\n%s\n%s, want\n%s\n%s", what, brief(b), brief(c), brief(want), brief(changes))
	}
	if err := board.Check(want); err != api.OK {
		t.Errorf("%s: comes to no board: error %d", what, err)
	}
}

// accepts asks that b is a board, that its bytes are those of the document, and
// that they are read as b.
func accepts(t *testing.T, what string, b []api.Entry) {
	t.Helper()
	if err := board.Check(b); err != api.OK {
		t.Errorf("%s: Check: error %d", what, err)
	}
	want := saidBoard(b)
	if p, err := board.Put(b); err != api.OK || string(p) != want {
		t.Errorf("%s: Put: %.200q, error %d, want %.200q", what, p, err, want)
	}
	if got, err := board.Get([]byte(want)); err != api.OK || !sameBoard(got, b) {
		t.Errorf("%s: Get: %s, error %d, want %s", what, brief(got), err, brief(b))
	}
}

// refuses asks that b is none, for this reason, and that its bytes are none of a
// board.
func refuses(t *testing.T, what string, want api.Errno, b []api.Entry) {
	t.Helper()
	if err := board.Check(b); err != want {
		t.Errorf("%s: Check: error %d, want %d", what, err, want)
	}
	if p, err := board.Put(b); p != nil || err != want {
		t.Errorf("%s: Put: %.200q, error %d, want %d", what, p, err, want)
	}
	isNoBoard(t, what, saidBoard(b))
}

// isNoBoard asks that s is refused.
func isNoBoard(t *testing.T, what, s string) {
	t.Helper()
	if b, err := board.Get([]byte(s)); err != api.ErrBoard || len(b) > 0 {
		t.Errorf("%s: Get(%.200q): %s, error %d", what, s, brief(b), err)
	}
}

// sameBoard and sameChanges take nil and an empty list for the same.
func sameBoard(a, b []api.Entry) bool {
	return slices.EqualFunc(a, b, func(x, y api.Entry) bool {
		return slices.Equal(x.Labels, y.Labels) && x.Instance == y.Instance
	})
}

func sameChanges(a, b []api.Change) bool {
	return slices.EqualFunc(a, b, func(x, y api.Change) bool {
		same := slices.Equal(x.Labels, y.Labels)
		x.Labels, y.Labels = nil, nil
		return same && reflect.DeepEqual(x, y)
	})
}

// brief keeps long lists out of what a test tells.
func brief(x any) string {
	s := fmt.Sprintf("%+v", x)
	if len(s) > 800 {
		return s[:800] + ".."
	}
	return s
}
