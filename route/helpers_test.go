package route_test

import (
	"fmt"
	"math"
	"reflect"
	"slices"
	"strconv"
	"strings"
	"testing"

	"klaxon/api"
	"klaxon/route"
)

// list is labels of names and values in turn.
func list(words ...string) []api.Label {
	var l []api.Label
	for i := 0; i < len(words); i += 2 {
		l = append(l, api.Label{Name: words[i], Value: words[i+1]})
	}
	return l
}

// match is matchers of names, ops and values in turn.
func match(words ...string) []api.Matcher {
	var l []api.Matcher
	for i := 0; i < len(words); i += 3 {
		l = append(l, api.Matcher{Name: words[i], Op: words[i+1], Value: words[i+2]})
	}
	return l
}

// sev is the matcher sev = s.
func sev(s string) []api.Matcher { return match("sev", "=", s) }

// to is a route to that receiver for all that comes to it.
func to(receiver string, kids ...api.Route) api.Route {
	return api.Route{Receiver: receiver, Repeat: 1, Kids: kids}
}

// of is a route to that receiver for what the matchers match.
func of(ms []api.Matcher, receiver string, kids ...api.Route) api.Route {
	return api.Route{Matchers: ms, Receiver: receiver, Repeat: 1, Kids: kids}
}

// goesOn is the route with Continue.
func goesOn(r api.Route) api.Route {
	r.Continue = true
	return r
}

func by(r api.Route, names ...string) api.Route {
	r.GroupBy = names
	return r
}

// broad is a root of so many routes in all, the others of which are its Kids.
func broad(number int) api.Route {
	r := to("r0")
	for i := 1; i < number; i++ {
		r.Kids = append(r.Kids, to("r"+strconv.Itoa(i)))
	}
	return r
}

// deep is a root of so many routes in all, each in the one ahead of it.
func deep(number int) api.Route {
	r := to("r" + strconv.Itoa(number-1))
	for i := number - 2; i >= 0; i-- {
		r = to("r"+strconv.Itoa(i), r)
	}
	return r
}

// bushy is a root of so many routes in all, parted between two Kids each.
func bushy(number int) api.Route {
	r := to("bushy")
	rest := number - 1
	for _, n := range []int{rest - rest/2, rest / 2} {
		if n > 0 {
			r.Kids = append(r.Kids, bushy(n))
		}
	}
	return r
}

// shapes is trees of so many routes.
func shapes(number int) map[string]api.Route {
	return map[string]api.Route{"broad": broad(number), "deep": deep(number), "bushy": bushy(number)}
}

// clone is a tree that shares nothing with r, with the spare room of its lists.
func clone(r api.Route) api.Route {
	r.Matchers = slices.Clone(whole(r.Matchers))[:len(r.Matchers)]
	r.GroupBy = slices.Clone(whole(r.GroupBy))[:len(r.GroupBy)]
	r.Kids = slices.Clone(whole(r.Kids))[:len(r.Kids)]
	for i, kid := range r.Kids {
		r.Kids[i] = clone(kid)
	}
	return r
}

// flat is the routes of the tree at their numbers, so that they may be changed.
func flat(r *api.Route) []*api.Route {
	l := []*api.Route{r}
	for i := range r.Kids {
		l = append(l, flat(&r.Kids[i])...)
	}
	return l
}

// marked is the tree with unlike times in all its routes.
func marked(r api.Route) api.Route {
	r = clone(r)
	for i, x := range flat(&r) {
		x.Wait, x.Interval, x.Repeat = int64(100+i), int64(200+i), int64(300+i)
	}
	return r
}

// someTree is one of three levels.
func someTree() api.Route {
	return to("all",
		of(sev("crit"), "page", of(match("team", "=", "red"), "red"), of(match("team", "^=", "b"), "blue", to("navy"))),
		goesOn(by(of(match("sev", "!=", "warn", "host", "!^", "test"), "mail"), "host", "sev")),
		by(of(sev("warn"), "chat"), "host"),
	)
}

// changed is the tree but for one thing in the route with that number.
func changed(r api.Route, number int, do func(x *api.Route)) api.Route {
	r = clone(r)
	do(flat(&r)[number])
	return r
}

// a fault is what may stand in no route.
type fault struct {
	what string
	do   func(x *api.Route)
}

// noNames is what no label's name is.
func noNames() []string {
	return []string{"", "1", "9a", "a-b", "a b", " a", "a ", "ä", "a\x00", "a=", "{", "a\xff", "\n", strings.Repeat("a", api.MaxName+1), strings.Repeat("_", 1000)}
}

// noReceivers is what no rule.Name is.
func noReceivers() []string {
	return []string{"", "A", "a_b", "a b", " a", "ä", "a\x00", "a.b", "mail\n", "\xff", strings.Repeat("a", api.MaxFolder+1), strings.Repeat("-", 1000)}
}

// noMatchers is matchers that labels.Check refuses.
func noMatchers() [][]api.Matcher {
	l := [][]api.Matcher{
		make([]api.Matcher, 1), make([]api.Matcher, api.MaxLabels+1), manyMatchers(api.MaxLabels + 1), manyMatchers(1000),
		match("a", "=", strings.Repeat("v", api.MaxLabel+1)), match("a", "=", "1", "a-b", "=", "1"), match("", "=", "", "a", "=", "1"),
	}
	for _, op := range []string{"", "==", "<", "=~", "^", "!", "=!", "= ", "!=^", "~"} {
		l = append(l, match("a", op, "1"), match("a", "=", "1", "b", op, "1"))
	}
	for _, name := range noNames() {
		l = append(l, match(name, "=", "1"))
	}
	return l
}

// manyMatchers is so many that may be, but for their number.
func manyMatchers(n int) []api.Matcher {
	var l []api.Matcher
	for i := range n {
		l = append(l, api.Matcher{Name: "n" + strconv.Itoa(i), Op: "!=", Value: strconv.Itoa(i)})
	}
	return l
}

// manyNames is so many unlike names.
func manyNames(n int) []string {
	var l []string
	for i := range n {
		l = append(l, "n"+strconv.Itoa(100+i))
	}
	return l
}

// noGroups is what GroupBy may not be.
func noGroups() [][]string {
	l := [][]string{
		manyNames(api.MaxLabels + 1), manyNames(1000), make([]string, api.MaxLabels+1),
		{"a", "a"}, {"a", "b", "a"}, {"b", "a", "a"}, {"a", "a", "b"}, append(manyNames(api.MaxLabels-1), "n100"), append(manyNames(api.MaxLabels-1), "n114"),
	}
	for _, name := range noNames() {
		l = append(l, []string{name}, []string{"a", name}, []string{name, "a"}, append(manyNames(api.MaxLabels-1), name))
	}
	return l
}

// faults is what may stand in no route, wherever in the tree it is.
func faults() []fault {
	l := []fault{{"the zero Route", func(x *api.Route) { *x = api.Route{Kids: x.Kids} }}}
	for i, ms := range noMatchers() {
		l = append(l, fault{"Matchers " + strconv.Itoa(i), func(x *api.Route) { x.Matchers = ms }})
	}
	for _, s := range noReceivers() {
		l = append(l, fault{"Receiver " + strconv.Quote(s), func(x *api.Route) { x.Receiver = s }})
	}
	for i, names := range noGroups() {
		l = append(l, fault{"GroupBy " + strconv.Itoa(i), func(x *api.Route) { x.GroupBy = names }})
	}
	for _, n := range []int64{math.MinInt64, -api.MaxWait, -1, api.MaxWait + 1, 1<<32 + 1, math.MaxInt64} {
		of := " of " + strconv.FormatInt(n, 10)
		l = append(l,
			fault{"Wait" + of, func(x *api.Route) { x.Wait = n }},
			fault{"Interval" + of, func(x *api.Route) { x.Interval = n }},
			fault{"Repeat" + of, func(x *api.Route) { x.Repeat = n }})
	}
	return append(l, fault{"Repeat of 0", func(x *api.Route) { x.Repeat = 0 }})
}

// fewFaults is one of each kind.
func fewFaults() []fault {
	seen := map[string]bool{}
	return slices.DeleteFunc(faults(), func(f fault) bool {
		kind, _, _ := strings.Cut(f.what, " ")
		was := seen[kind]
		seen[kind] = true
		return was
	})
}

// accepts asks that r may be, that its bytes are those of the document, and that
// they are read as r.
func accepts(t *testing.T, what string, r api.Route) {
	t.Helper()
	if err := route.Check(r); err != api.OK {
		t.Errorf("%s: Check: error %d", what, err)
	}
	want := saidTree(r)
	if b, err := route.Put(r); err != api.OK || string(b) != want {
		t.Errorf("%s: Put: %.200q, error %d, want %.200q", what, b, err, want)
	}
	if got, err := route.Get([]byte(want)); err != api.OK || !same(got, r) {
		t.Errorf("%s: Get: %s, error %d, want %s", what, brief(got), err, brief(r))
	}
}

// refuses asks that r may not be, for this reason, and that its bytes are none of
// a tree.
func refuses(t *testing.T, what string, want api.Errno, r api.Route) {
	t.Helper()
	refusesToPut(t, what, want, r)
	isNoTree(t, what, saidTree(r))
}

// refusesToPut is for trees that nobody could lay.
func refusesToPut(t *testing.T, what string, want api.Errno, r api.Route) {
	t.Helper()
	if err := route.Check(r); err != want {
		t.Errorf("%s: Check: error %d, want %d", what, err, want)
	}
	if b, err := route.Put(r); b != nil || err != want {
		t.Errorf("%s: Put: %.200q, error %d, want %d", what, b, err, want)
	}
}

// isNoTree asks that s is refused.
func isNoTree(t *testing.T, what, s string) {
	t.Helper()
	if r, err := route.Get([]byte(s)); err != api.ErrRoute || !reflect.DeepEqual(r, api.Route{}) {
		t.Errorf("%s: Get(%.200q): %s, error %d", what, s, brief(r), err)
	}
}

// finds asks that an alert with these labels goes to the routes with these
// numbers, and that each target is what its route says.
func finds(t *testing.T, what string, r api.Route, l []api.Label, numbers ...int) {
	t.Helper()
	if err := route.Check(r); err != api.OK {
		t.Fatalf("%s: of no tree: error %d", what, err)
	}
	r = clone(r)
	all := flat(&r)
	var want []api.Target
	for _, n := range numbers {
		want = append(want, targetOf(n, *all[n], l))
	}
	if got := route.Find(r, l); !sameTargets(got, want) {
		t.Errorf("%s: Find of %v:\n%s, want\n%s", what, l, brief(got), brief(want))
	}
}

// targetOf is the target that a route with that number is for these labels.
func targetOf(number int, r api.Route, l []api.Label) api.Target {
	x := api.Target{Route: number, Receiver: r.Receiver, Wait: r.Wait, Interval: r.Interval, Repeat: r.Repeat}
	for _, y := range l {
		if slices.Contains(r.GroupBy, y.Name) {
			x.Group = append(x.Group, y)
		}
	}
	return x
}

// same takes nil and an empty list for the same.
func same(a, b api.Route) bool {
	alike := slices.Equal(a.Matchers, b.Matchers) && slices.Equal(a.GroupBy, b.GroupBy) && slices.EqualFunc(a.Kids, b.Kids, same)
	for _, x := range []*api.Route{&a, &b} {
		x.Matchers, x.GroupBy, x.Kids = nil, nil, nil
	}
	return alike && reflect.DeepEqual(a, b)
}

func sameTargets(a, b []api.Target) bool {
	return slices.EqualFunc(a, b, func(x, y api.Target) bool {
		alike := slices.Equal(x.Group, y.Group)
		x.Group, y.Group = nil, nil
		return alike && reflect.DeepEqual(x, y)
	})
}

// brief keeps long lists out of what a test tells.
func brief(x any) string {
	s := fmt.Sprintf("%+v", x)
	if len(s) > 800 {
		return s[:800] + ".."
	}
	return s
}

// roomy is the list with spare room behind it, in which x stands.
func roomy[T any](x T, l ...T) []T {
	return append(slices.Clone(l), x, x)[:len(l)]
}

// whole is the list with its spare room.
func whole[T any](l []T) []T { return l[:cap(l)] }

// scribble spoils all of a list, its spare room too.
func scribble[T any](l []T, x T) {
	for i := range whole(l) {
		whole(l)[i] = x
	}
}
