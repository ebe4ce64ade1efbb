package route_test

import (
	"slices"
	"strconv"
	"testing"

	"klaxon/api"
	"klaxon/route"
)

// The chapter's example.
func TestExample(t *testing.T) {
	first := of(sev("crit"), "b")
	r := to("a", first, of(sev("crit"), "c"))
	finds(t, "crit", r, list("sev", "crit"), 1)
	finds(t, "another one", r, list("sev", "warn"), 0)
	r = to("a", goesOn(first), of(sev("crit"), "c"))
	finds(t, "crit, with Continue", r, list("sev", "crit"), 1, 2)
	finds(t, "another one, with Continue", r, list("sev", "warn"), 0)
}

// P20.2: a root alone is where all goes.
func TestFindOfARootAlone(t *testing.T) {
	for _, l := range [][]api.Label{nil, {}, list("sev", "crit"), list("a", "1", "b", "2")} {
		finds(t, "a root alone", marked(to("a")), l, 0)
		finds(t, "a root with a group", marked(by(to("a"), "a", "sev")), l, 0)
	}
}

// P20.2: to the field.
func TestFindTellsAllOfATarget(t *testing.T) {
	r := api.Route{Receiver: "all", GroupBy: []string{"host", "sev"}, Wait: 1, Interval: 2, Repeat: 3, Kids: []api.Route{
		{Matchers: sev("crit"), Receiver: "page", GroupBy: []string{"team", "none", "host"}, Wait: 4, Interval: 5, Repeat: 6, Continue: true},
		{Matchers: sev("crit"), Receiver: "mail", Repeat: api.MaxWait},
		{Matchers: sev("crit"), Receiver: "chat", Repeat: 7},
	}}
	want := []api.Target{
		{Route: 1, Receiver: "page", Group: list("host", "x", "team", "red"), Wait: 4, Interval: 5, Repeat: 6},
		{Route: 2, Receiver: "mail", Repeat: api.MaxWait},
	}
	if got := route.Find(r, list("host", "x", "sev", "crit", "team", "red")); !sameTargets(got, want) {
		t.Errorf("%+v, want %+v", got, want)
	}
	want = []api.Target{{Receiver: "all", Group: list("host", "x", "sev", "warn"), Wait: 1, Interval: 2, Repeat: 3}}
	if got := route.Find(r, list("host", "x", "sev", "warn", "team", "red")); !sameTargets(got, want) {
		t.Errorf("%+v, want %+v", got, want)
	}
}

// P20.2: no Kid matches; the first one does, with Continue and without it; the
// last one; one among others.
func TestFindAmongKids(t *testing.T) {
	crit, warn := sev("crit"), sev("warn")
	l := list("sev", "crit")
	for _, c := range []struct {
		what string
		kids []api.Route
		want []int
	}{
		{"none matches", []api.Route{of(warn, "b"), of(warn, "c")}, []int{0}},
		{"none matches, with Continue", []api.Route{goesOn(of(warn, "b")), goesOn(of(warn, "c"))}, []int{0}},
		{"the first one", []api.Route{of(crit, "b"), of(warn, "c"), of(warn, "d")}, []int{1}},
		{"the first one, with Continue", []api.Route{goesOn(of(crit, "b")), of(warn, "c"), of(warn, "d")}, []int{1}},
		{"the last one", []api.Route{of(warn, "b"), of(warn, "c"), of(crit, "d")}, []int{3}},
		{"the last one, with Continue", []api.Route{of(warn, "b"), of(warn, "c"), goesOn(of(crit, "d"))}, []int{3}},
		{"one in between", []api.Route{of(warn, "b"), of(crit, "c"), of(warn, "d")}, []int{2}},
		{"one that does not match ends nothing", []api.Route{of(warn, "b"), goesOn(of(crit, "c")), of(warn, "d"), of(crit, "e")}, []int{2, 4}},
		{"the first of two without Continue", []api.Route{of(crit, "b"), of(crit, "c"), goesOn(of(crit, "d"))}, []int{1}},
		{"the second of two without Continue", []api.Route{goesOn(of(crit, "b")), of(crit, "c"), of(crit, "d")}, []int{1, 2}},
		{"all with Continue", []api.Route{goesOn(of(crit, "b")), goesOn(of(crit, "c")), goesOn(of(crit, "d"))}, []int{1, 2, 3}},
		{"all but the last one with Continue", []api.Route{goesOn(of(crit, "b")), goesOn(of(crit, "c")), of(crit, "d")}, []int{1, 2, 3}},
		{"one without Matchers ahead", []api.Route{to("b"), of(crit, "c")}, []int{1}},
		{"one without Matchers ahead, with Continue", []api.Route{goesOn(to("b")), of(crit, "c")}, []int{1, 2}},
		{"one without Matchers behind", []api.Route{of(crit, "b"), to("c")}, []int{1}},
		{"one without Matchers behind one with Continue", []api.Route{goesOn(of(crit, "b")), to("c")}, []int{1, 2}},
		{"one without Matchers alone", []api.Route{to("b")}, []int{1}},
		{"one without Matchers for the rest", []api.Route{of(warn, "b"), to("c"), of(crit, "d")}, []int{2}},
	} {
		finds(t, c.what, marked(to("a", c.kids...)), l, c.want...)
	}
}

// P20.2: each of the Matchers has to match, by each of the ops.
func TestFindByAllMatchers(t *testing.T) {
	ms := match("host", "^=", "db", "sev", "=", "crit", "team", "!=", "red", "zone", "!^", "test")
	r := to("a", of(ms, "b"))
	finds(t, "all match", r, list("host", "db-1", "sev", "crit", "team", "blue", "zone", "eu"), 1)
	finds(t, "all match, two of what is not there", r, list("host", "db", "sev", "crit"), 1)
	finds(t, "all but host", r, list("host", "d", "sev", "crit"), 0)
	finds(t, "all but host, which is not there", r, list("sev", "crit"), 0)
	finds(t, "all but sev", r, list("host", "db", "sev", "criti"), 0)
	finds(t, "all but team", r, list("host", "db", "sev", "crit", "team", "red"), 0)
	finds(t, "all but zone", r, list("host", "db", "sev", "crit", "zone", "test-2"), 0)
	finds(t, "none", r, list("team", "red", "zone", "test"), 0)
	finds(t, "of no labels", r, nil, 0)
	r = to("a", of(match("sev", "=", ""), "b"), of(match("sev", "^=", ""), "c"))
	finds(t, "a label that is not there", r, list("host", "1"), 1)
	finds(t, "a label that is there", r, list("sev", "1"), 2)
}

// P20.2: where a Kid's own Kids match, it is no target; where none of them does,
// it is.
func TestFindInKidsOfKids(t *testing.T) {
	crit, warn := sev("crit"), sev("warn")
	l := list("sev", "crit")
	inner := func(ms []api.Matcher) api.Route { return of(ms, "i") }
	for _, c := range []struct {
		what string
		kids []api.Route
		want []int
	}{
		{"its Kid matches", []api.Route{of(crit, "b", inner(crit)), of(crit, "c")}, []int{2}},
		{"its Kid does not", []api.Route{of(crit, "b", inner(warn)), of(crit, "c")}, []int{1}},
		{"it does not, and its Kid would", []api.Route{of(warn, "b", inner(crit)), of(crit, "c")}, []int{3}},
		{"it goes on, its Kid matches", []api.Route{goesOn(of(crit, "b", inner(crit))), of(crit, "c")}, []int{2, 3}},
		{"it goes on, its Kid does not match", []api.Route{goesOn(of(crit, "b", inner(warn))), of(crit, "c")}, []int{1, 3}},
		{"its Kid goes on, it does not", []api.Route{of(crit, "b", goesOn(inner(crit))), of(crit, "c")}, []int{2}},
		{"its Kid does not go on, it does", []api.Route{goesOn(of(crit, "b", inner(crit), inner(crit))), of(crit, "c")}, []int{2, 4}},
		{"both of its Kids", []api.Route{of(crit, "b", goesOn(inner(crit)), inner(crit)), of(crit, "c")}, []int{2, 3}},
		{"its second Kid", []api.Route{of(crit, "b", inner(warn), inner(crit)), of(crit, "c")}, []int{3}},
		{"in two of them", []api.Route{goesOn(of(crit, "b", inner(warn), inner(crit))), goesOn(of(warn, "c", inner(crit))), of(crit, "d", inner(warn), goesOn(inner(crit)), inner(nil), inner(crit))}, []int{3, 8, 9}},
		{"three levels", []api.Route{of(crit, "b", of(crit, "c", of(crit, "d", inner(warn)), inner(crit)))}, []int{3}},
		{"three levels, to the last", []api.Route{of(crit, "b", of(crit, "c", of(warn, "d", inner(crit)), inner(crit)))}, []int{5}},
		{"without Matchers", []api.Route{to("b", to("c", to("d"), to("e")), to("f")), to("g")}, []int{3}},
	} {
		finds(t, c.what, marked(to("a", c.kids...)), l, c.want...)
	}
}

// P20.2: some tree, for alerts of many kinds.
func TestFindInSomeTree(t *testing.T) {
	r := marked(someTree())
	finds(t, "of the root", r, list("host", "test-1", "sev", "info"), 0)
	finds(t, "page", r, list("sev", "crit"), 1)
	finds(t, "page", r, list("host", "a", "sev", "crit", "team", "green"), 1)
	finds(t, "red", r, list("host", "a", "sev", "crit", "team", "red"), 2)
	finds(t, "navy", r, list("sev", "crit", "team", "blue"), 4)
	finds(t, "mail", r, list("host", "a", "sev", "info"), 5)
	finds(t, "mail", r, nil, 5)
	finds(t, "chat", r, list("host", "a", "sev", "warn"), 6)
}

// withPaths is the tree in which each route but the root matches the labels whose
// path begins with its own; and the paths of all.
func withPaths(r api.Route) (api.Route, []string) {
	r = clone(r)
	paths := setPaths(&r, "/")
	r.Matchers = nil
	return r, paths
}

func setPaths(r *api.Route, path string) []string {
	r.Matchers = match("path", "^=", path)
	paths := []string{path}
	for i := range r.Kids {
		paths = append(paths, setPaths(&r.Kids[i], path+strconv.Itoa(i)+"/")...)
	}
	return paths
}

// P20.2: each route ahead of its Kids, these in order; of each number the alert
// that goes there and nowhere else.
func TestNumbersOfRoutes(t *testing.T) {
	for n := 1; n <= api.MaxRoutes; n++ {
		for what, r := range shapes(n) {
			r, paths := withPaths(marked(r))
			for number, path := range paths {
				finds(t, what, r, list("path", path), number)
				finds(t, what, r, list("path", path+"x"), number)
			}
			for _, x := range flat(&r)[1:] {
				x.Continue = true
			}
			for number, path := range paths {
				finds(t, what+", with Continue", r, list("path", path), number)
			}
		}
	}
}

// P20.2: by rising numbers, all that have no Kids, if all go on.
func TestOrderOfTargets(t *testing.T) {
	for n := 1; n <= api.MaxRoutes; n++ {
		for what, r := range shapes(n) {
			r = marked(r)
			var leaves []int
			for number, x := range flat(&r) {
				x.Continue = number > 0
				if len(x.Kids) == 0 {
					leaves = append(leaves, number)
				}
			}
			finds(t, what, r, list("a", "1"), leaves...)
			for _, x := range flat(&r) {
				x.Continue = false
			}
			finds(t, what+", without Continue", r, list("a", "1"), leaves[0])
		}
	}
}

// P20.2: the labels whose names GroupBy has, in the order of the labels; no names,
// and names that the alert has not.
func TestGroupsOfTargets(t *testing.T) {
	l := list("a", "1", "b", "2", "c", "3", "d", "4")
	for _, c := range []struct {
		names []string
		want  []api.Label
	}{
		{nil, nil},
		{[]string{}, nil},
		{[]string{"x"}, nil},
		{[]string{"A", "aa", "_"}, nil},
		{manyNames(api.MaxLabels), nil},
		{[]string{"a"}, l[:1]},
		{[]string{"d"}, l[3:]},
		{[]string{"c", "b"}, l[1:3]},
		{[]string{"c", "x", "a"}, list("a", "1", "c", "3")},
		{[]string{"d", "c", "b", "a"}, l},
		{append(manyNames(api.MaxLabels-4), "d", "c", "b", "a"), l},
	} {
		for _, r := range []api.Route{by(to("a"), c.names...), to("a", by(of(match("a", "=", "1"), "b"), c.names...)), by(to("a", by(of(match("a", "=", "2"), "b"), "a", "b")), c.names...)} {
			got := route.Find(r, l)
			if len(got) != 1 || !slices.Equal(got[0].Group, c.want) {
				t.Errorf("by %v: %+v, want %+v", c.names, got, c.want)
			}
			if got := route.Find(r, nil); len(got) != 1 || len(got[0].Group) > 0 {
				t.Errorf("by %v, of no labels: %+v", c.names, got)
			}
		}
	}
	// A route's own names count, not those of the one above it.
	r := by(to("a", goesOn(by(to("b"), "b")), to("c")), "a")
	finds(t, "of two", r, l, 1, 2)
}
