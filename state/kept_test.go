package state_test

import (
	"math/rand"
	"testing"

	"klaxon/api"
	"klaxon/state"
)

// P17.1 to P17.3: what is handed in is not changed.
func TestNothingIsChanged(t *testing.T) {
	for _, x := range everyone() {
		for _, result := range append(noResults(), allResults()...) {
			for _, h := range []api.Holds{holds(0, 0), holds(10, 5), byPolicies(2, 3), byPolicies(4, 0), {}} {
				v, now := num(3), int64(100)
				one, other := x, h
				state.Check(x)
				state.Means(h, result)
				state.Step(x, h, result, v, now)
				if x != one || h != other || v != num(3) || now != 100 {
					t.Fatalf("changed: %+v, %+v, %v, %d", x, h, v, now)
				}
			}
		}
	}
}

// The fourth rule that holds everywhere: a call answers what it did ahead,
// whatever was asked in between.
func TestNothingIsKept(t *testing.T) {
	type call struct {
		x      api.Instance
		h      api.Holds
		result int
		v      api.Value
		now    int64
	}
	type told struct {
		made, next api.Instance
		check      api.Errno
		means      int
	}
	tell := func(c call) told {
		return told{state.New(c.now), state.Step(c.x, c.h, c.result, c.v, c.now), state.Check(c.x), state.Means(c.h, c.result)}
	}
	r := rand.New(rand.NewSource(178))
	var calls []call
	var first []told
	for range 2000 {
		x, last := anyInstance(r)
		c := call{x, anyHolds(r), anyResult(r), oneOf(r, someValues()...), last}
		calls, first = append(calls, c), append(first, tell(c))
	}
	for _, i := range r.Perm(len(calls)) {
		if again := tell(calls[i]); again != first[i] {
			t.Fatalf("%+v: %+v, and ahead %+v", calls[i], again, first[i])
		}
	}
}

// Goroutines may ask at the same time: the calls share nothing.
func TestCallsAtOneTime(t *testing.T) {
	done := make(chan api.Instance)
	for range 8 {
		go func() {
			x := state.New(0)
			for now := range int64(2000) {
				x = state.Step(x, holds(10, 5), 1+int(now/20%2), num(now), now)
			}
			done <- x
		}()
	}
	first := <-done
	for range 7 {
		if x := <-done; x != first {
			t.Errorf("%+v, and %+v", x, first)
		}
	}
}
