package state_test

import (
	"math/rand"
	"testing"

	"klaxon/api"
	"klaxon/state"
)

// What the document says, read a second time: each field by itself, in numbers.

// saidMeans is P17.2.
func saidMeans(h api.Holds, result int) int {
	policy := map[int]int{1: 3, 2: 3, 3: h.NoData, 4: h.OnError}[result]
	if result == 1 || result == 2 || policy == 1 {
		return map[int]int{1: 1, 2: 2, 3: 3, 4: 4}[result]
	}
	return map[int]int{2: 2, 3: 1}[policy]
}

// saidBegin is since when an instance breaches that breaches now.
func saidBegin(x api.Instance, now int64) int64 {
	if x.State == 2 || x.State == 3 {
		return x.From
	}
	return now
}

// saidCalm is since when an instance does not breach any more that does not now.
func saidCalm(x api.Instance, now int64) int64 {
	if x.Quiet >= 0 {
		return x.Quiet
	}
	return now
}

func saidState(x api.Instance, h api.Holds, means int, now int64) int {
	switch {
	case means == 0:
		return x.State
	case means == 3:
		return 4
	case means == 4:
		return 5
	case means == 2 && (x.State == 3 || now >= saidBegin(x, now)+h.For):
		return 3
	case means == 2:
		return 2
	case x.State == 3 && h.Keep > 0 && now < saidCalm(x, now)+h.Keep:
		return 3
	}
	return 1
}

// saidStep is P17.3.
func saidStep(x api.Instance, h api.Holds, result int, v api.Value, now int64) api.Instance {
	means := saidMeans(h, result)
	next := api.Instance{State: saidState(x, h, means, now), Since: x.Since, From: -1, Quiet: -1, Seen: now, Value: v}
	if next.State != x.State {
		next.Since = now
	}
	switch {
	case means == 0:
		next.From, next.Quiet = x.From, x.Quiet
	case means == 2:
		next.From = saidBegin(x, now)
	case next.State == 3:
		next.From, next.Quiet = x.From, saidCalm(x, now)
	}
	return next
}

func oneOf[T any](r *rand.Rand, l ...T) T { return l[r.Intn(len(l))] }

func anyHolds(r *rand.Rand) api.Holds {
	h := api.Holds{For: r.Int63n(12), Keep: r.Int63n(12), NoData: 1 + r.Intn(4), OnError: 1 + r.Intn(4)}
	switch r.Intn(20) {
	case 0:
		h.NoData = oneOf(r, noPolicies()...)
	case 1:
		h.OnError = oneOf(r, noPolicies()...)
	case 2:
		h.For, h.Keep = oneOf(r, 0, h.For, api.MaxHold), oneOf(r, 0, h.Keep, api.MaxHold)
	}
	return h
}

func anyResult(r *rand.Rand) int {
	if r.Intn(25) == 0 {
		return oneOf(r, noResults()...)
	}
	return oneOf(r, 1, 1, 1, 2, 2, 2, 2, 3, 4)
}

// anyTimes is some times from first on, each of which may be that ahead of it.
func anyTimes(r *rand.Rand, first int64, number int) []int64 {
	var l []int64
	for range number {
		l = append(l, first)
		first = min(maxTime, first+r.Int63n(5))
	}
	return l
}

// P17.3: against the second reading, of instances as scripts make them.
func TestStepAgainstASecondReading(t *testing.T) {
	r := rand.New(rand.NewSource(171))
	seen := map[[2]int]int{}
	for range 4000 {
		h, first := anyHolds(r), oneOf[int64](r, 0, 7, maxTime-60)
		x := state.New(first)
		for _, now := range anyTimes(r, first, 40) {
			if r.Intn(30) == 0 {
				h = anyHolds(r) // somebody changed the rule
			}
			result, v := anyResult(r), oneOf(r, someValues()...)
			if got, want := state.Means(h, result), saidMeans(h, result); got != want {
				t.Fatalf("Means(%+v, %d): %d, want %d", h, result, got, want)
			}
			got, want := state.Step(x, h, result, v, now), saidStep(x, h, result, v, now)
			if got != want {
				t.Fatalf("Step(%+v, %+v, %d, %v, %d):\n%+v, want\n%+v", x, h, result, v, now, got, want)
			}
			seen[[2]int{x.State, got.State}]++
			x = got
		}
	}
	// Each state from each state, but that what alerts does not come to
	// StatePending.
	for _, from := range allStates() {
		for _, to := range allStates() {
			n := seen[[2]int{from, to}]
			if back := from == api.StateAlerting && to == api.StatePending; back != (n == 0) {
				t.Errorf("%d to %d: %d times", from, to, n)
			}
		}
	}
}

// P17.3: of each instance that may be, with all its times among few ones.
func TestStepOfAllInstancesAgainstASecondReading(t *testing.T) {
	times := []int64{never, 0, 1, 2}
	number := 0
	for _, kind := range allStates() {
		for _, from := range times {
			for _, quiet := range times {
				x := api.Instance{State: kind, Since: 1, From: from, Quiet: quiet, Seen: 2, Value: null}
				if state.Check(x) == api.OK {
					number += stepsAgainstASecondReading(t, x)
				}
			}
		}
	}
	if number < 10000 {
		t.Errorf("%d steps", number)
	}
}

func stepsAgainstASecondReading(t *testing.T, x api.Instance) int {
	t.Helper()
	number := 0
	for wait := range int64(4) {
		for keep := range int64(4) {
			for policy := range 6 {
				for result := range 6 {
					for now := int64(2); now < 6; now++ {
						h := api.Holds{For: wait, Keep: keep, NoData: policy, OnError: 5 - policy}
						got, want := state.Step(x, h, result, num(now), now), saidStep(x, h, result, num(now), now)
						if got != want {
							t.Fatalf("Step(%+v, %+v, %d, %d):\n%+v, want\n%+v", x, h, result, now, got, want)
						}
						number++
					}
				}
			}
		}
	}
	return number
}
