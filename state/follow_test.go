package state_test

import (
	"math/rand"
	"testing"

	"klaxon/api"
	"klaxon/state"
)

// anyHistory is an instance that a random script left, and when it did.
func anyHistory(r *rand.Rand) (api.Instance, int64) {
	first := oneOf[int64](r, 0, 7, maxTime-1000)
	x, h := state.New(first), anyHolds(r)
	for _, now := range anyTimes(r, first, r.Intn(30)) {
		x = state.Step(x, h, anyResult(r), oneOf(r, someValues()...), now)
	}
	return x, x.Seen
}

// breaching is holds by which the three results that it tells are breaches.
func breaching(wait, keep int64) (api.Holds, []int) {
	h := api.Holds{For: wait, Keep: keep, NoData: api.PolicyAlert, OnError: api.PolicyAlert}
	return h, []int{api.ResAlert, api.ResNoData, api.ResError}
}

// P17.4: whatever was ahead of it.
func TestTheHold(t *testing.T) {
	r := rand.New(rand.NewSource(174))
	seen := map[[2]int]int{}
	for range 6000 {
		x, last := anyHistory(r)
		ahead := x.State
		h, results := breaching(r.Int63n(30), r.Int63n(5))
		times := anyTimes(r, last+r.Int63n(4), 20)
		begun := times[0]
		if ahead == api.StatePending {
			begun = x.From
		}
		for _, now := range times {
			x = state.Step(x, h, oneOf(r, results...), oneOf(r, someValues()...), now)
			want := api.StatePending
			if ahead == api.StateAlerting || now >= begun+h.For {
				want = api.StateAlerting
			}
			if x.State != want {
				t.Fatalf("from state %d, a breach from %d on, For %d, at %d: %+v", ahead, begun, h.For, now, x)
			}
			if ahead != api.StateAlerting && x.From != begun {
				t.Fatalf("from state %d, a breach from %d on: %+v", ahead, begun, x)
			}
			seen[[2]int{ahead, x.State}]++
		}
	}
	for _, ahead := range allStates() {
		if seen[[2]int{ahead, api.StateAlerting}] < 100 {
			t.Errorf("seldom alerting: %v", seen)
		}
		if ahead != api.StateAlerting && seen[[2]int{ahead, api.StatePending}] < 100 {
			t.Errorf("seldom pending: %v", seen)
		}
	}
}

// P17.4: Since is the first evaluation that is For or more later, and just one.
func TestTheHoldTellsSinceWhen(t *testing.T) {
	r := rand.New(rand.NewSource(175))
	alerts := 0
	for range 3000 {
		h, results := breaching(r.Int63n(40), 0)
		times := anyTimes(r, oneOf[int64](r, 0, 5, 1<<32), 20)
		x, first := state.New(times[0]), int64(never)
		for _, now := range times {
			x = state.Step(x, h, oneOf(r, results...), null, now)
			if first == never && now-times[0] >= h.For {
				first = now
				alerts++
			}
			want := first
			if first == never {
				want = times[0]
			}
			if x.Since != want || (x.State == api.StateAlerting) != (first != never) {
				t.Fatalf("a breach at %v, For %d, at %d: %+v", times, h.For, now, x)
			}
		}
	}
	if alerts < 1000 {
		t.Errorf("%d alerts", alerts)
	}
}

// anyInstance is one that may be, with its latest time; its times have no order.
func anyInstance(r *rand.Rand) (api.Instance, int64) {
	time := func() int64 { return oneOf(r, 0, 1, r.Int63n(100), r.Int63n(maxTime), maxTime-r.Int63n(50), maxTime) }
	x := api.Instance{State: 1 + r.Intn(5), Since: time(), From: never, Quiet: never, Seen: time(), Value: oneOf(r, someValues()...)}
	if x.State == api.StatePending || x.State == api.StateAlerting && r.Intn(4) > 0 {
		x.From = time()
	}
	if x.State == api.StateAlerting && r.Intn(2) > 0 {
		x.Quiet = time()
	}
	return x, max(x.Since, x.From, x.Quiet, x.Seen)
}

// P17.5
func TestStepOfWhatMayBeMayBe(t *testing.T) {
	r := rand.New(rand.NewSource(176))
	seen := map[int]int{}
	for range 200000 {
		x, last := anyInstance(r)
		may(t, "any", x)
		h, now := anyHolds(r), oneOf(r, last, min(maxTime, last+r.Int63n(20)), last+r.Int63n(maxTime-last+1), maxTime)
		got := state.Step(x, h, anyResult(r), oneOf(r, someValues()...), now)
		if err := state.Check(got); err != api.OK {
			t.Fatalf("Step(%+v, %+v) at %d: %+v, error %d", x, h, now, got, err)
		}
		seen[got.State]++
	}
	for _, kind := range allStates() {
		if seen[kind] < 1000 {
			t.Errorf("%v", seen)
		}
	}
}

// P17.5: step after step, from New on.
func TestAllStepsOfAScriptMayBe(t *testing.T) {
	r := rand.New(rand.NewSource(177))
	for range 3000 {
		first := oneOf[int64](r, 0, 9, maxTime-20)
		x := state.New(first)
		for _, now := range anyTimes(r, first, 50) {
			x = state.Step(x, anyHolds(r), anyResult(r), oneOf(r, someValues()...), now)
			may(t, "a step", x)
		}
	}
}
