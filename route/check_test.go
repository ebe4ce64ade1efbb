package route_test

import (
	"strings"
	"testing"

	"klaxon/api"
	"klaxon/route"
)

// P20.1
func TestTreesThatMayBe(t *testing.T) {
	accepts(t, "a root alone", to("a"))
	accepts(t, "some tree", someTree())
	accepts(t, "with unlike times", marked(someTree()))
	refuses(t, "the zero Route", api.ErrRoute, api.Route{})
}

// P20.1: from one route to MaxRoutes of them, however they stand.
func TestTreesByNumber(t *testing.T) {
	for n := 1; n <= api.MaxRoutes; n++ {
		for what, r := range shapes(n) {
			accepts(t, what, r)
		}
	}
	for _, n := range []int{api.MaxRoutes + 1, api.MaxRoutes + 2, 2 * api.MaxRoutes, 100, 1000} {
		for what, r := range shapes(n) {
			refuses(t, what, api.ErrMany, r)
		}
	}
	// One more than there may be, below the last of them, and in front of the first.
	for what, r := range shapes(api.MaxRoutes) {
		for number := range api.MaxRoutes {
			refuses(t, what, api.ErrMany, changed(r, number, func(x *api.Route) { x.Kids = append(x.Kids, to("more")) }))
		}
	}
}

// P20.1: that there are too many comes ahead of what is wrong with one of them,
// wherever it stands.
func TestTreesOfTooManyThatAreNoneOtherwise(t *testing.T) {
	spoils := append(fewFaults(),
		fault{"Matchers in the root", func(x *api.Route) { x.Matchers = sev("crit") }},
		fault{"Continue in the root", func(x *api.Route) { x.Continue = true }})
	for _, f := range spoils {
		last := api.MaxRoutes
		if strings.HasSuffix(f.what, "in the root") {
			last = 0
		}
		for what, r := range shapes(api.MaxRoutes + 1) {
			for number := 0; number <= last; number++ {
				refuses(t, what+" of one too many, with "+f.what, api.ErrMany, changed(r, number, f.do))
			}
		}
		for what, r := range shapes(api.MaxRoutes) {
			for number := 0; number <= last && number < api.MaxRoutes; number++ {
				refuses(t, what+" of MaxRoutes, with "+f.what, api.ErrRoute, changed(r, number, f.do))
			}
		}
	}
	for what, r := range shapes(api.MaxRoutes + 1) {
		for _, x := range flat(&r) {
			x.Receiver = ""
		}
		refuses(t, what+" of one too many, and all are none", api.ErrMany, r)
	}
}

// P20.1: it is told as soon as it is sure, however many there are.
func TestTreesOfFarTooMany(t *testing.T) {
	for what, r := range boundless() {
		refusesToPut(t, what, api.ErrMany, r)
		// Nothing is said of what is found, but that it ends.
		route.Find(r, nil)
		route.Find(r, list("sev", "crit"))
	}
}

// boundless is trees that nobody could go through.
func boundless() map[string]api.Route {
	round := make([]api.Route, 2)
	for i := range round {
		round[i] = api.Route{Receiver: "a", Repeat: 1, Continue: true, Kids: round}
	}
	twice, wrong := to("a"), api.Route{}
	for range 80 {
		twice = to("a", goesOn(twice), goesOn(twice))
		wrong.Kids = []api.Route{wrong, wrong}
	}
	return map[string]api.Route{
		"in a circle": to("a", round...), "each twice": twice, "each twice, and wrong": wrong,
		"very deep": deep(1 << 14), "very broad": broad(1 << 18),
		"all with many": to("a", make([]api.Route, 1<<18)...),
	}
}

// P20.1: in the root, in a Kid, in a Kid's Kid, in the first and in the last of
// them all: none of these may be.
func TestTreesWithAFault(t *testing.T) {
	tree := someTree()
	for _, f := range faults() {
		refuses(t, f.what+" in a root alone", api.ErrRoute, changed(to("a"), 0, f.do))
		for number := range flat(&tree) {
			refuses(t, f.what, api.ErrRoute, changed(tree, number, f.do))
		}
	}
	for _, f := range fewFaults() {
		for what, r := range shapes(api.MaxRoutes) {
			for number := range api.MaxRoutes {
				refuses(t, f.what+" in one that is "+what, api.ErrRoute, changed(r, number, f.do))
			}
		}
	}
}

// inEach asks that the tree may be, whichever of its routes is changed so; the
// root too, if it is told.
func inEach(t *testing.T, what string, rootToo bool, do func(x *api.Route)) {
	t.Helper()
	tree := someTree()
	for number := range flat(&tree) {
		if number > 0 || rootToo {
			accepts(t, what, changed(tree, number, do))
		}
	}
}

// P20.1
func TestTreesByMatchers(t *testing.T) {
	for _, ms := range [][]api.Matcher{
		nil, {}, match("a", "=", ""), match("a", "=", "1"), match("a", "!=", "1"), match("a", "^=", "1"), match("a", "!^", "1"),
		match("a", "=", strings.Repeat("v", api.MaxLabel)), match(strings.Repeat("a", api.MaxName), "=", "1"), match("_A9", "^=", "\x00\xff"),
		match("a", "=", "1", "a", "=", "1"), match("b", "=", "1", "a", "!=", "2"), manyMatchers(api.MaxLabels),
	} {
		inEach(t, brief(ms), false, func(x *api.Route) { x.Matchers = ms })
	}
	for _, ms := range noMatchers() {
		refuses(t, brief(ms), api.ErrRoute, to("a", of(ms, "b")))
	}
}

// P20.1
func TestTreesByReceiver(t *testing.T) {
	for _, s := range []string{"a", "z", "0", "9", "-", "a-z-0-9", strings.Repeat("a", api.MaxFolder)} {
		inEach(t, s, true, func(x *api.Route) { x.Receiver = s })
	}
	// Two routes may have one receiver.
	accepts(t, "one for all", bushy(api.MaxRoutes))
}

// P20.1: no names, MaxLabels of them, in whichever order.
func TestTreesByGroups(t *testing.T) {
	turned := []string{"b", "a", "_", "Z", "A"}
	for _, names := range [][]string{
		nil, {}, {"a"}, {"a", "b"}, turned, {"a", "A"}, {"a", "aa"}, {strings.Repeat("a", api.MaxName)},
		{strings.Repeat("a", api.MaxName), strings.Repeat("a", api.MaxName-1)}, manyNames(api.MaxLabels - 1), manyNames(api.MaxLabels),
	} {
		inEach(t, brief(names), true, func(x *api.Route) { x.GroupBy = names })
	}
	for n := api.MaxLabels + 1; n < 40; n++ {
		refuses(t, "too many names", api.ErrRoute, by(to("a"), manyNames(n)...))
	}
}

// P20.1
func TestTreesByTimes(t *testing.T) {
	for _, n := range []int64{0, 1, 2, 127, 128, api.MaxWait - 1, api.MaxWait} {
		inEach(t, "Wait", true, func(x *api.Route) { x.Wait = n })
		inEach(t, "Interval", true, func(x *api.Route) { x.Interval = n })
		if n > 0 {
			inEach(t, "Repeat", true, func(x *api.Route) { x.Repeat = n })
		}
		inEach(t, "all three", true, func(x *api.Route) { x.Wait, x.Interval, x.Repeat = n, n, max(n, 1) })
	}
	inEach(t, "a Repeat below the others", true, func(x *api.Route) { x.Wait, x.Interval, x.Repeat = api.MaxWait, api.MaxWait, 1 })
}

// P20.1: what a Kid may have, and a root may not.
func TestRootsThatAreNone(t *testing.T) {
	for what, r := range map[string]api.Route{"a root alone": to("a"), "some tree": someTree(), "MaxRoutes": broad(api.MaxRoutes)} {
		for _, ms := range [][]api.Matcher{sev("crit"), match("a", "!=", ""), manyMatchers(api.MaxLabels)} {
			refuses(t, what+" with Matchers", api.ErrRoute, changed(r, 0, func(x *api.Route) { x.Matchers = ms }))
		}
		refuses(t, what+" with Continue", api.ErrRoute, changed(r, 0, func(x *api.Route) { x.Continue = true }))
		refuses(t, what+" with both", api.ErrRoute, changed(r, 0, func(x *api.Route) { x.Matchers, x.Continue = sev("crit"), true }))
	}
	inEach(t, "Continue", false, func(x *api.Route) { x.Continue = true })
	accepts(t, "as a Kid", to("a", goesOn(of(sev("crit"), "b", goesOn(of(sev("crit"), "c"))))))
}
