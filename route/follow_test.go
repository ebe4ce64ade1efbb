package route_test

import (
	"math/rand"
	"testing"

	"klaxon/api"
	"klaxon/route"
)

// P20.4: every alert has a target, by rising numbers, each with a number that
// there is.
func TestEveryAlertHasATarget(t *testing.T) {
	r := rand.New(rand.NewSource(204))
	for range 4000 {
		number := anyNumber(r)
		tree := anyTree(r, number)
		for range 5 {
			l := anyLabels(r)
			got := route.Find(tree, l)
			if len(got) == 0 {
				t.Fatalf("%s: no target of %v", brief(tree), l)
			}
			for i, x := range got {
				if x.Route < 0 || x.Route >= number || i > 0 && got[i-1].Route >= x.Route {
					t.Fatalf("%s: %v goes to %s", brief(tree), l, brief(got))
				}
			}
		}
	}
}

// P20.4: one alone, if no route has Continue.
func TestOneTargetAloneWithoutContinue(t *testing.T) {
	r := rand.New(rand.NewSource(205))
	numbers := map[int]int{}
	for range 4000 {
		tree := anyTree(r, anyNumber(r))
		for _, x := range flat(&tree) {
			x.Continue = false
		}
		for range 5 {
			l := anyLabels(r)
			got := route.Find(tree, l)
			if len(got) != 1 {
				t.Fatalf("%s: %v goes to %s", brief(tree), l, brief(got))
			}
			numbers[got[0].Route]++
		}
	}
	if len(numbers) < 25 {
		t.Errorf("numbers: %v", numbers)
	}
}

// P20.4: of labels of all kinds, as of none.
func TestEveryAlertHasATargetInTheShapes(t *testing.T) {
	for n := 1; n <= api.MaxRoutes; n++ {
		for what, r := range shapes(n) {
			for _, ms := range [][]api.Matcher{nil, sev("crit"), match("sev", "!=", "crit"), match("sev", "^=", "c", "a", "!^", "1")} {
				for _, x := range flat(&r)[1:] {
					x.Matchers = ms
				}
				for _, l := range [][]api.Label{nil, list("sev", "crit"), list("sev", "warn"), list("a", "1", "sev", "crit")} {
					if got := route.Find(r, l); len(got) != 1 {
						t.Fatalf("%s of %d, %v: %v goes to %s", what, n, ms, l, brief(got))
					}
				}
			}
		}
	}
}

// P20.5
func TestGetOfPutIsTheTree(t *testing.T) {
	r := rand.New(rand.NewSource(206))
	thereAndBack := func(tree api.Route) {
		t.Helper()
		b, err := route.Put(tree)
		if err != api.OK {
			t.Fatalf("Put of %s: error %d", brief(tree), err)
		}
		if got, err := route.Get(b); err != api.OK || !same(got, tree) {
			t.Fatalf("Get of Put of %s: %s, error %d", brief(tree), brief(got), err)
		}
	}
	for range 5000 {
		thereAndBack(anyTree(r, anyNumber(r)))
	}
	for n := 1; n <= api.MaxRoutes; n++ {
		for _, tree := range shapes(n) {
			thereAndBack(tree)
			thereAndBack(greatest(tree))
		}
	}
}

// P20.5: an alert goes where it went ahead, behind the way through the bytes.
func TestATreeFindsTheSameFromItsBytes(t *testing.T) {
	r := rand.New(rand.NewSource(207))
	for range 2000 {
		tree := anyTree(r, anyNumber(r))
		b, _ := route.Put(tree)
		again, _ := route.Get(b)
		for range 3 {
			l := anyLabels(r)
			if got, want := route.Find(again, l), route.Find(tree, l); !sameTargets(got, want) {
				t.Fatalf("%s: %v goes to %s, and from its bytes to %s", brief(tree), l, brief(want), brief(got))
			}
		}
	}
}
