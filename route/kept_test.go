package route_test

import (
	"bytes"
	"math"
	"math/rand"
	"reflect"
	"slices"
	"testing"

	"klaxon/api"
	"klaxon/route"
)

// roomyTree is a tree in which each list has spare room.
func roomyTree(r api.Route) api.Route {
	r.Matchers = roomy(api.Matcher{Name: "spare", Op: "=", Value: "spare"}, r.Matchers...)
	r.GroupBy = roomy("spare", r.GroupBy...)
	r.Kids = roomy(to("spare"), r.Kids...)
	for i, kid := range r.Kids {
		r.Kids[i] = roomyTree(kid)
	}
	return r
}

// deepCopy is a tree with the spare room of its lists, which shares nothing.
func deepCopy(r api.Route) api.Route {
	r.Matchers, r.GroupBy, r.Kids = slices.Clone(whole(r.Matchers)), slices.Clone(whole(r.GroupBy)), slices.Clone(whole(r.Kids))
	for i, kid := range r.Kids {
		r.Kids[i] = deepCopy(kid)
	}
	return r
}

func scribbleTree(r api.Route) {
	for _, kid := range whole(r.Kids) {
		scribbleTree(kid)
	}
	scribble(r.Matchers, api.Matcher{Name: "scribble"})
	scribble(r.GroupBy, "scribble")
	scribble(r.Kids, api.Route{Receiver: "scribble"})
}

func scribbleTargets(l []api.Target) {
	for _, x := range whole(l) {
		scribble(x.Group, api.Label{Name: "scribble", Value: "scribble"})
	}
	scribble(l, api.Target{Receiver: "scribble"})
}

// trees is what may be handed in: those that may be, and those that may not.
func trees() []api.Route {
	l := []api.Route{{}, to("a"), someTree(), marked(someTree()), broad(api.MaxRoutes), deep(api.MaxRoutes), bushy(api.MaxRoutes), bushy(api.MaxRoutes + 1), of(sev("crit"), "a"), goesOn(to("a"))}
	tree := someTree()
	for _, f := range fewFaults() {
		for number := range flat(&tree) {
			l = append(l, changed(tree, number, f.do))
		}
	}
	r := rand.New(rand.NewSource(208))
	for range 100 {
		l = append(l, anyTree(r, anyNumber(r)))
	}
	return l
}

// alerts is sets, and lists that are none.
func alerts() [][]api.Label {
	return [][]api.Label{
		nil, {}, list("sev", "crit"), list("host", "a", "sev", "crit", "team", "red"), list("a", "1", "ab", "1", "b", "2"),
		list("b", "1", "a", "2", "a", "1", "b", "2"), list("", ""), list("sev", ""), make([]api.Label, 100),
	}
}

// P20.1 to P20.3: what is handed in is not changed, its spare room neither.
func TestNothingHandedInIsChanged(t *testing.T) {
	for _, r := range trees() {
		r = roomyTree(r)
		ahead := deepCopy(r)
		route.Check(r)
		route.Put(r)
		for _, l := range alerts() {
			l = roomy(api.Label{Name: "spare", Value: "spare"}, l...)
			labels := slices.Clone(whole(l))
			route.Find(r, l)
			if !slices.Equal(whole(l), labels) {
				t.Fatalf("Find changed the labels: %v, was %v", whole(l), labels)
			}
		}
		if !reflect.DeepEqual(deepCopy(r), ahead) {
			t.Fatalf("changed what was handed in: %s, was %s", brief(deepCopy(r)), brief(ahead))
		}
	}
}

// P20.2: what is answered is new each time, and shares nothing with what was
// handed in; no two Groups of an answer share anything.
func TestFindSharesNothing(t *testing.T) {
	for _, r := range trees() {
		for _, l := range alerts() {
			want := route.Find(r, l)
			mine, labels := roomyTree(r), roomy(api.Label{Name: "spare", Value: "spare"}, l...)
			ahead, all := deepCopy(mine), slices.Clone(whole(labels))
			first, second := route.Find(mine, labels), route.Find(mine, labels)
			scribbleTargets(first)
			if !reflect.DeepEqual(deepCopy(mine), ahead) || !slices.Equal(whole(labels), all) {
				t.Fatalf("targets share something with what was handed in: %s, %v", brief(r), l)
			}
			scribbleTree(mine)
			scribble(labels, api.Label{})
			if !sameTargets(second, want) {
				t.Fatalf("two answers share something: %s, %v", brief(r), l)
			}
			for i := range second {
				scribble(second[i].Group, api.Label{Name: "scribble"})
				if i+1 < len(second) && !slices.Equal(second[i+1].Group, want[i+1].Group) {
					t.Fatalf("two targets share something: %s, %v", brief(r), l)
				}
			}
		}
	}
}

// P20.3: bytes that are answered are new, and share nothing.
func TestPutSharesNothing(t *testing.T) {
	for _, r := range trees() {
		first, err := route.Put(r)
		again, _ := route.Put(r)
		if !bytes.Equal(first, again) {
			t.Fatalf("unlike the second time: %q, %q", first, again)
		}
		scribble(first, 0xa5)
		if err == api.OK && string(again) != saidTree(r) {
			t.Fatalf("two answers share something: %q", again)
		}
	}
}

// P20.3: bytes that are handed in are not changed and not kept, and trees that
// are answered are new, each of their lists too.
func TestGetChangesAndSharesNothing(t *testing.T) {
	for _, want := range []api.Route{marked(someTree()), greatest(bushy(api.MaxRoutes)), greatest(deep(5)), greatest(broad(5))} {
		for _, cut := range []int{0, 1, 30} {
			s := saidTree(want)
			b := roomy(0xee, []byte(s[:len(s)-cut])...)
			ahead := slices.Clone(whole(b))
			first, err := route.Get(b)
			again, _ := route.Get(b)
			if !bytes.Equal(whole(b), ahead) {
				t.Fatalf("changed what was handed in: %q", whole(b))
			}
			if !reflect.DeepEqual(first, again) {
				t.Fatalf("unlike the second time: %s, %s", brief(first), brief(again))
			}
			scribble(b, 0xa5)
			scribbleTree(first)
			if cut == 0 && (err != api.OK || !same(again, want)) {
				t.Fatalf("something is shared: %s", brief(again))
			}
			if cut == 0 {
				sharesNothingInside(t, again, want)
			}
		}
	}
}

// sharesNothingInside asks that no two lists of the tree share anything: each one
// is as it was, when all lists of the routes ahead of it are spoilt.
func sharesNothingInside(t *testing.T, r, want api.Route) {
	t.Helper()
	said := clone(want)
	ours, theirs := flat(&r), flat(&said)
	for i, x := range ours {
		if !slices.Equal(x.Matchers, theirs[i].Matchers) {
			t.Fatalf("the Matchers of route %d share something", i)
		}
		scribble(x.Matchers, api.Matcher{Name: "scribble"})
		if !slices.Equal(x.GroupBy, theirs[i].GroupBy) {
			t.Fatalf("the GroupBy of route %d shares something", i)
		}
		scribble(x.GroupBy, "scribble")
		for spare := len(x.Kids); spare < cap(x.Kids); spare++ {
			whole(x.Kids)[spare] = api.Route{Receiver: "scribble"}
		}
	}
}

// P20.1 to P20.3: nil and an empty list are the same.
func TestNilAndEmpty(t *testing.T) {
	ms := [][]api.Matcher{nil, {}, make([]api.Matcher, 0, 4)}
	names := [][]string{nil, {}, make([]string, 0, 4)}
	kids := [][]api.Route{nil, {}, make([]api.Route, 0, 4)}
	for i := range ms {
		for j := range names {
			for k := range kids {
				x := api.Route{Matchers: ms[i], Receiver: "a", GroupBy: names[j], Repeat: 1, Kids: kids[k]}
				isBytes(t, "a root", x, "\x00\x01a\x00+\x00+\x00+\x01\x00\x00")
				isBytes(t, "a Kid", to("z", x), "\x00\x01z\x00+\x00+\x00+\x01\x00\x01"+"\x00\x01a\x00+\x00+\x00+\x01\x00\x00")
				for _, l := range [][]api.Label{nil, {}, make([]api.Label, 0, 4)} {
					finds(t, "a root", x, l, 0)
					finds(t, "a Kid", to("z", x), l, 1)
				}
			}
		}
	}
}

// P20.1 to P20.3: the same route may stand in many places, and share its lists.
func TestRoutesThatShareTheirLists(t *testing.T) {
	shared := []api.Route{goesOn(of(sev("crit"), "b")), of(sev("crit"), "c")}
	twice := goesOn(to("a", shared...))
	r := to("all", twice, twice, to("d", shared...))
	accepts(t, "shared", r)
	finds(t, "shared", r, list("sev", "crit"), 2, 3, 5, 6, 8, 9)
	finds(t, "shared", r, list("sev", "warn"), 1, 4, 7)
}

// The fourth rule that holds everywhere: a call answers what it did ahead,
// whatever was asked in between.
func TestNothingIsKept(t *testing.T) {
	type told struct {
		checked, put api.Errno
		bytes        []byte
		found        [][]api.Target
	}
	ask := func(r api.Route) told {
		x := told{checked: route.Check(r)}
		x.bytes, x.put = route.Put(r)
		route.Get(x.bytes)
		for _, l := range alerts() {
			x.found = append(x.found, route.Find(r, l))
		}
		return x
	}
	l := trees()
	var first []told
	for _, r := range l {
		first = append(first, ask(r))
	}
	r := rand.New(rand.NewSource(209))
	for range 3 {
		for _, i := range r.Perm(len(l)) {
			if again := ask(l[i]); !reflect.DeepEqual(again, first[i]) {
				t.Fatalf("%s: %s, and ahead %s", brief(l[i]), brief(again), brief(first[i]))
			}
		}
	}
}

// The first rule that holds everywhere: each call ends, and none panics, also at
// what the chapter says nothing of; and it answers the same again.
func TestAtAllArguments(t *testing.T) {
	strange := []api.Route{
		{Matchers: match("", "", "", "sev", "?", "crit"), GroupBy: []string{"", "", "\xff"}, Wait: math.MinInt64, Interval: -1, Repeat: math.MaxInt64, Continue: true},
		{Kids: make([]api.Route, 31)}, {Kids: make([]api.Route, 32)}, {Kids: []api.Route{{Kids: []api.Route{{}}}, {Continue: true}}},
	}
	for _, r := range append(strange, trees()...) {
		for _, l := range append(alerts(), manyLabels(1000)) {
			if got, again := route.Find(r, l), route.Find(r, l); !reflect.DeepEqual(got, again) {
				t.Fatalf("%s: Find of %v: %s, and again %s", brief(r), l, brief(got), brief(again))
			}
		}
		if err, again := route.Check(r), route.Check(r); err != again || err != saidCheck(r) {
			t.Fatalf("%s: Check: error %d, and again %d", brief(r), err, again)
		}
	}
	r := rand.New(rand.NewSource(210))
	for range 20000 {
		b := make([]byte, r.Intn(40))
		for i := range b {
			b[i] = oneOf(r, 0, 0, 1, 1, '+', 'a', byte(r.Intn(256)))
		}
		if got, err := route.Get(b); err != api.OK && !reflect.DeepEqual(got, api.Route{}) {
			t.Fatalf("Get(%q): %s, error %d", b, brief(got), err)
		}
	}
}

// manyLabels is more than a set has.
func manyLabels(n int) []api.Label {
	var l []api.Label
	for _, name := range manyNames(n) {
		l = append(l, api.Label{Name: name, Value: name})
	}
	return l
}

// Goroutines may ask at the same time: the calls share nothing.
func TestCallsAtOneTime(t *testing.T) {
	shared := marked(someTree())
	done := make(chan string)
	for range 8 {
		go func() {
			for range 50 {
				for _, l := range alerts() {
					route.Find(shared, l)
				}
				route.Check(shared)
			}
			b, _ := route.Put(shared)
			route.Get(b)
			done <- string(b)
		}()
	}
	for range 8 {
		if s := <-done; s != saidTree(shared) {
			t.Errorf("%q", s)
		}
	}
}
