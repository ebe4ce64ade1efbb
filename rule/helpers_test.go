package rule_test

import (
	"fmt"
	"reflect"
	"slices"
	"strconv"
	"strings"
	"testing"

	"klaxon/api"
	"klaxon/rule"
)

const maxTime = int64(1) << 40

// num is a number of thousandths, made without the layers below.
func num(n int64) api.Value { return api.Value{Kind: api.ValueNum, N: n} }

func query(ref string) api.Node {
	return api.Node{Ref: ref, Kind: api.NodeQuery, Source: "s"}
}

func reduce(ref, input string) api.Node {
	return api.Node{Ref: ref, Kind: api.NodeReduce, Input: input, How: "mean"}
}

func expr(ref, text string) api.Node {
	return api.Node{Ref: ref, Kind: api.NodeMath, Text: text}
}

// queries is so many nodes that hang on nothing.
func queries(n int) []api.Node {
	var l []api.Node
	for i := range n {
		l = append(l, query("Q"+strconv.Itoa(100+i)))
	}
	return l
}

// some is a rule with as little in it as there may be.
func some() api.Rule {
	return api.Rule{
		Folder: "a", Group: "b", Title: "c", Interval: 1, NoData: api.PolicyState, OnError: api.PolicyState,
		Nodes: []api.Node{query("A")}, Condition: "A",
	}
}

// full is a rule with something in each field, and with each kind of node.
func full() api.Rule {
	return api.Rule{
		Folder: "ops", Group: "disk-1", Title: "Disk\x00\xff", Interval: 300, Offset: 7, For: 128, Keep: 127,
		NoData: api.PolicyKeep, OnError: api.PolicyAlert,
		Labels: list("host", "a", "sev", "\xffcrit"),
		Nodes: []api.Node{
			{Ref: "B", Kind: api.NodeReduce, Input: "A", How: "mean", Strict: true},
			{Ref: "A", Kind: api.NodeQuery, Source: "cpu"},
			{Ref: "C", Kind: api.NodeMath, Text: "$B*2"},
			{Ref: "D", Kind: api.NodeThreshold, Input: "C", How: "out", Low: num(-1500), High: api.Value{Kind: api.ValuePlus}},
		},
		Condition: "D", Paused: true,
	}
}

// someVersion and fullVersion are those rules as somebody left them.
func someVersion() api.Version { return version(some()) }

func fullVersion() api.Version {
	return api.Version{Id: 300, Number: 2, By: "ann-1", At: 16384, Deleted: true, Rule: full()}
}

// version is the first version of this rule.
func version(r api.Rule) api.Version { return api.Version{Id: 1, Number: 1, By: "u", Rule: r} }

// ofSize is a rule of just so many bytes, near those that there may be: blanks
// stand behind the expressions until it has them.
func ofSize(t *testing.T, size int) api.Rule {
	t.Helper()
	r := some()
	for i := range 9 {
		r.Nodes = append(r.Nodes, expr("M"+strconv.Itoa(i), "$A"))
	}
	for i := 1; i < len(r.Nodes) && len(saidRule(r)) < size; i++ {
		// The length itself takes a byte more from 128 on.
		blanks := min(size-len(saidRule(r)), api.MaxExpr-2)
		r.Nodes[i].Text += strings.Repeat(" ", blanks)
		if len(saidRule(r)) > size {
			r.Nodes[i].Text = r.Nodes[i].Text[:len(r.Nodes[i].Text)-1]
		}
	}
	if len(saidRule(r)) != size {
		t.Fatalf("a rule of %d bytes, want %d", len(saidRule(r)), size)
	}
	return r
}

// list is labels of names and values in turn, in the order that they come in.
func list(words ...string) []api.Label {
	var l []api.Label
	for i := 0; i < len(words); i += 2 {
		l = append(l, api.Label{Name: words[i], Value: words[i+1]})
	}
	return l
}

// wide is a set of so many labels.
func wide(n int) []api.Label {
	var l []api.Label
	for i := range n {
		l = append(l, api.Label{Name: "n" + strconv.Itoa(1000+i), Value: strconv.Itoa(i)})
	}
	return l
}

// noSets is lists of labels that are no sets.
func noSets() [][]api.Label {
	turned := wide(api.MaxLabels)
	slices.Reverse(turned)
	return [][]api.Label{
		list("", ""), list("a", ""), list("", "1"), list("1", "1"), list("a-b", "1"), list("ä", "1"), list("a ", "1"), list("a\x00", "1"),
		list("a", "1", "b", ""), list("a", "1", "b-", "1"),
		list("b", "1", "a", "1"), list("a", "1", "c", "1", "b", "1"), list("a", "1", "B", "1"), list("a", "1", "Z", "1", "b", "1"),
		list("a", "1", "a", "1"), list("a", "1", "a", "2"), list("a", "2", "a", "1"), list("a", "1", "b", "1", "b", "2"), list("a", "1", "b", "1", "a", "1"),
		list(strings.Repeat("a", api.MaxName+1), "1"), list("a", strings.Repeat("1", api.MaxLabel+1)),
		wide(api.MaxLabels + 1), wide(1000), turned,
	}
}

// noNames is texts that are no Name.
func noNames() []string {
	return []string{
		"", " ", "A", "Ops", "opS", "_", "a_b", "a b", " a", "a ", "a.b", "a/b", "ä", "a\x00", "\x00", "a\xff", "\xff", "a\n",
		strings.Repeat("a", api.MaxFolder+1), strings.Repeat("-", api.MaxFolder) + "-", strings.Repeat("a", 100000),
	}
}

// accepts asks that r may be, that its bytes are those of the document, and that
// they are read as r; and so for its first version.
func accepts(t *testing.T, what string, r api.Rule) {
	t.Helper()
	if err := rule.Check(r); err != api.OK {
		t.Errorf("%s: Check: error %d", what, err)
	}
	want := saidRule(r)
	if b, err := rule.Put(r); err != api.OK || string(b) != want {
		t.Errorf("%s: Put: %.200q, error %d, want %.200q", what, b, err, want)
	}
	if got, err := rule.Get([]byte(want)); err != api.OK || !same(got, r) {
		t.Errorf("%s: Get: %s, error %d, want %s", what, brief(got), err, brief(r))
	}
	acceptsVersion(t, what, version(r))
}

// refuses asks that r may not be, for this reason, and that its bytes are none
// of a rule; and so for its first version.
func refuses(t *testing.T, what string, want api.Errno, r api.Rule) {
	t.Helper()
	if err := rule.Check(r); err != want {
		t.Errorf("%s: Check: error %d, want %d", what, err, want)
	}
	if b, err := rule.Put(r); b != nil || err != want {
		t.Errorf("%s: Put: %.200q, error %d, want %d", what, b, err, want)
	}
	isNoRule(t, what, saidRule(r))
	refusesVersion(t, what, want, version(r))
}

func acceptsVersion(t *testing.T, what string, v api.Version) {
	t.Helper()
	want := saidVersion(v)
	if b, err := rule.PutVersion(v); err != api.OK || string(b) != want {
		t.Errorf("%s: PutVersion: %.200q, error %d, want %.200q", what, b, err, want)
	}
	if got, err := rule.GetVersion([]byte(want)); err != api.OK || !sameVersion(got, v) {
		t.Errorf("%s: GetVersion: %s, error %d, want %s", what, brief(got), err, brief(v))
	}
}

func refusesVersion(t *testing.T, what string, want api.Errno, v api.Version) {
	t.Helper()
	if b, err := rule.PutVersion(v); b != nil || err != want {
		t.Errorf("%s: PutVersion: %.200q, error %d, want %d", what, b, err, want)
	}
	isNoVersion(t, what, saidVersion(v))
}

// isNoRule asks that s is refused.
func isNoRule(t *testing.T, what, s string) {
	t.Helper()
	if r, err := rule.Get([]byte(s)); err != api.ErrRule || !reflect.DeepEqual(r, api.Rule{}) {
		t.Errorf("%s: Get(%.200q): %s, error %d", what, s, brief(r), err)
	}
}

// isNoVersion asks that s is refused.
func isNoVersion(t *testing.T, what, s string) {
	t.Helper()
	if v, err := rule.GetVersion([]byte(s)); err != api.ErrRule || !reflect.DeepEqual(v, api.Version{}) {
		t.Errorf("%s: GetVersion(%.200q): %s, error %d", what, s, brief(v), err)
	}
}

// same takes nil and an empty list for the same.
func same(a, b api.Rule) bool {
	if !slices.Equal(a.Labels, b.Labels) || !slices.Equal(a.Nodes, b.Nodes) {
		return false
	}
	a.Labels, a.Nodes, b.Labels, b.Nodes = nil, nil, nil, nil
	return reflect.DeepEqual(a, b)
}

func sameVersion(a, b api.Version) bool {
	if !same(a.Rule, b.Rule) {
		return false
	}
	a.Rule, b.Rule = api.Rule{}, api.Rule{}
	return reflect.DeepEqual(a, b)
}

// brief keeps long lists out of what a test tells.
func brief(x any) string {
	s := fmt.Sprintf("%+v", x)
	if len(s) > 800 {
		return s[:800] + ".."
	}
	return s
}
