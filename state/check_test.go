package state_test

import (
	"math"
	"slices"
	"testing"

	"klaxon/api"
	"klaxon/state"
)

// P17.1
func TestNew(t *testing.T) {
	for _, now := range []int64{0, 1, 60, 1 << 32, maxTime - 1, maxTime} {
		want := api.Instance{State: 1, Since: now, From: -1, Quiet: -1, Seen: now, Value: api.Value{Kind: 2}}
		if got := state.New(now); got != want {
			t.Errorf("New(%d): %+v, want %+v", now, got, want)
		}
		may(t, "New", state.New(now))
	}
}

// P17.1
func TestInstancesThatMayBe(t *testing.T) {
	for _, x := range everyone() {
		may(t, "of everyone", x)
	}
	mayNot(t, "the zero Instance", api.Instance{})
}

// P17.1: one of the five, and no other.
func TestInstancesByState(t *testing.T) {
	for _, x := range everyone() {
		for _, n := range noStates() {
			x.State = n
			mayNot(t, "State", x)
		}
	}
}

// P17.1: Since and Seen are times in each state, and never Never.
func TestInstancesBySinceAndSeen(t *testing.T) {
	for _, x := range everyone() {
		for _, at := range []int64{0, 1, 1 << 32, maxTime - 1, maxTime} {
			one, other := x, x
			one.Since, other.Seen = at, at
			may(t, "Since", one)
			may(t, "Seen", other)
		}
		for _, at := range []int64{-1, -2, maxTime + 1, -maxTime, math.MaxInt64, math.MinInt64} {
			one, other := x, x
			one.Since, other.Seen = at, at
			mayNot(t, "Since", one)
			mayNot(t, "Seen", other)
		}
	}
}

// tried is what From and Quiet are asked of: the times that may be, Never, and
// what is neither.
func tried() []int64 {
	return []int64{never, 0, 1, 90, maxTime - 1, maxTime, -2, -3, maxTime + 1, -maxTime, math.MaxInt64, math.MinInt64}
}

// P17.1: each state with each From and each Quiet.
func TestInstancesByFromAndQuiet(t *testing.T) {
	number := 0
	for _, kind := range allStates() {
		for _, from := range tried() {
			for _, quiet := range tried() {
				x := instance(kind, from, quiet)
				if fromMayBe(kind, from) && quietMayBe(kind, quiet) {
					may(t, "From and Quiet", x)
					number++
				} else {
					mayNot(t, "From and Quiet", x)
				}
			}
		}
	}
	// Three states with Never twice, StatePending with five times and Never,
	// StateAlerting with five times and Never twice over.
	if number != 3+5+36 {
		t.Errorf("%d may be", number)
	}
}

// fromMayBe is by state which of the tried ones may be.
func fromMayBe(kind int, from int64) bool {
	times := []int64{0, 1, 90, maxTime - 1, maxTime}
	switch kind {
	case api.StatePending:
		return slices.Contains(times, from)
	case api.StateAlerting:
		return slices.Contains(append(times, never), from)
	}
	return from == never
}

func quietMayBe(kind int, quiet int64) bool {
	if kind == api.StateAlerting {
		return slices.Contains([]int64{never, 0, 1, 90, maxTime - 1, maxTime}, quiet)
	}
	return quiet == never
}

// P17.1: the times of an instance need no order among one another.
func TestInstancesByTheOrderOfTimes(t *testing.T) {
	for _, since := range []int64{0, 5, maxTime} {
		for _, from := range []int64{0, 5, maxTime} {
			for _, quiet := range []int64{0, 5, maxTime} {
				for _, seen := range []int64{0, 5, maxTime} {
					may(t, "times", api.Instance{State: api.StateAlerting, Since: since, From: from, Quiet: quiet, Seen: seen, Value: null})
				}
			}
		}
	}
}

// P17.1: a value, whichever, in each state.
func TestInstancesByValue(t *testing.T) {
	for _, x := range everyone() {
		for _, v := range someValues() {
			x.Value = v
			may(t, "Value", x)
		}
		for _, v := range noValues() {
			x.Value = v
			mayNot(t, "Value", x)
		}
	}
}

// P17.1: one fault is enough, and several are one error.
func TestInstancesWithSeveralFaults(t *testing.T) {
	faults := []func(x *api.Instance){
		func(x *api.Instance) { x.State = 0 },
		func(x *api.Instance) { x.Since = -1 },
		func(x *api.Instance) { x.Seen = maxTime + 1 },
		func(x *api.Instance) { x.From = -2 },
		func(x *api.Instance) { x.Quiet = -2 },
		func(x *api.Instance) { x.Value = api.Value{} },
	}
	for _, x := range everyone() {
		for which := 1; which < 1<<len(faults); which++ {
			wrong := x
			for i, fault := range faults {
				if which>>i&1 == 1 {
					fault(&wrong)
				}
			}
			mayNot(t, "faults", wrong)
		}
	}
}
