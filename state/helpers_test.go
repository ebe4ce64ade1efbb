package state_test

import (
	"math"
	"testing"

	"klaxon/api"
	"klaxon/state"
)

const (
	never   = -1
	maxTime = 1 << 40
	maxNum  = 1000000000000000
)

// The values, without the layer below.
var (
	null  = api.Value{Kind: api.ValueNull}
	nan   = api.Value{Kind: api.ValueNaN}
	plus  = api.Value{Kind: api.ValuePlus}
	minus = api.Value{Kind: api.ValueMinus}
)

func num(n int64) api.Value { return api.Value{Kind: api.ValueNum, N: n} }

func someValues() []api.Value {
	return []api.Value{num(0), num(1), num(-1500), num(maxNum), num(-maxNum), null, nan, plus, minus}
}

// noValues is what is no value.
func noValues() []api.Value {
	return []api.Value{
		{}, {N: 1}, {Kind: -1}, {Kind: 6}, {Kind: 1 << 40}, num(maxNum + 1), num(-maxNum - 1), num(math.MinInt64),
		{Kind: api.ValueNull, N: 1}, {Kind: api.ValueNaN, N: -1}, {Kind: api.ValuePlus, N: 1000}, {Kind: api.ValueMinus, N: -maxNum},
	}
}

func allStates() []int {
	return []int{api.StateNormal, api.StatePending, api.StateAlerting, api.StateNoData, api.StateError}
}

func noStates() []int {
	return []int{0, 6, 7, -1, -2, -3, -5, 1<<8 + 1, 1<<32 + 2, 1<<32 + 3, math.MaxInt, math.MinInt, math.MinInt + 1}
}

func allResults() []int {
	return []int{api.ResNormal, api.ResAlert, api.ResNoData, api.ResError}
}

func noResults() []int {
	return []int{0, 5, 6, -1, -2, -3, -4, 1<<8 + 2, 1<<32 + 1, 1<<32 + 2, math.MaxInt, math.MinInt}
}

func allPolicies() []int {
	return []int{api.PolicyState, api.PolicyAlert, api.PolicyNormal, api.PolicyKeep}
}

func noPolicies() []int {
	return []int{0, 5, 6, -1, -2, 1<<8 + 1, 1<<32 + 1, 1<<32 + 2, 1<<32 + 3, math.MaxInt, math.MinInt}
}

// instance is one of that state since 40 that was seen at 90; its From and Quiet
// are told.
func instance(kind int, from, quiet int64) api.Instance {
	return api.Instance{State: kind, Since: 40, From: from, Quiet: quiet, Seen: 90, Value: num(7)}
}

func normal() api.Instance                    { return instance(api.StateNormal, never, never) }
func pending(from int64) api.Instance         { return instance(api.StatePending, from, never) }
func alerting(from, quiet int64) api.Instance { return instance(api.StateAlerting, from, quiet) }
func noData() api.Instance                    { return instance(api.StateNoData, never, never) }
func failed() api.Instance                    { return instance(api.StateError, never, never) }

// everyone is an instance of each state, and of each way to be in it.
func everyone() []api.Instance {
	return []api.Instance{
		normal(), pending(0), pending(40), pending(90),
		alerting(never, never), alerting(30, never), alerting(never, 60), alerting(30, 60), alerting(90, 90),
		noData(), failed(),
	}
}

// since is x in its state since that time.
func since(x api.Instance, at int64) api.Instance {
	x.Since = at
	return x
}

// holds is of the policy PolicyState.
func holds(wait, keep int64) api.Holds {
	return api.Holds{For: wait, Keep: keep, NoData: api.PolicyState, OnError: api.PolicyState}
}

func byPolicies(noData, onError int) api.Holds {
	return api.Holds{For: 10, Keep: 5, NoData: noData, OnError: onError}
}

// steps asks that Step of x is want, but for Seen and Value, which are those of
// the evaluation, and that both may be.
func steps(t *testing.T, what string, x api.Instance, h api.Holds, result int, now int64, want api.Instance) {
	t.Helper()
	if err := state.Check(x); err != api.OK {
		t.Fatalf("%s: %+v may not be", what, x)
	}
	for _, v := range someValues() {
		want.Seen, want.Value = now, v
		if got := state.Step(x, h, result, v, now); got != want {
			t.Errorf("%s: Step(%+v, %+v, %d, %v, %d):\n%+v, want\n%+v", what, x, h, result, v, now, got, want)
		}
	}
	if err := state.Check(want); err != api.OK {
		t.Errorf("%s: %+v may not be", what, want)
	}
}

func may(t *testing.T, what string, x api.Instance) {
	t.Helper()
	if err := state.Check(x); err != api.OK {
		t.Errorf("%s: Check(%+v): error %d", what, x, err)
	}
}

func mayNot(t *testing.T, what string, x api.Instance) {
	t.Helper()
	if err := state.Check(x); err != api.ErrArg {
		t.Errorf("%s: Check(%+v): error %d, want %d", what, x, err, api.ErrArg)
	}
}
