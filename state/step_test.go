package state_test

import (
	"math"
	"strconv"
	"testing"

	"klaxon/api"
	"klaxon/state"
)

// One evaluation of a script, and the state behind it.
type turn struct {
	now    int64
	result int
	state  int
	since  int64
	from   int64
	quiet  int64
}

// runs asks for all that is told behind each turn, from New(0) on.
func runs(t *testing.T, what string, h api.Holds, script ...turn) {
	t.Helper()
	x := state.New(0)
	for i, c := range script {
		v := num(int64(i))
		want := api.Instance{State: c.state, Since: c.since, From: c.from, Quiet: c.quiet, Seen: c.now, Value: v}
		x = state.Step(x, h, c.result, v, c.now)
		if x != want {
			t.Fatalf("%s, turn %d: %+v, want %+v", what, i, x, want)
		}
		may(t, what, x)
	}
}

// P17.3: the chapter's example.
func TestStepOfTheExample(t *testing.T) {
	runs(t, "the example", holds(10, 5),
		turn{0, api.ResAlert, api.StatePending, 0, 0, never},
		turn{5, api.ResAlert, api.StatePending, 0, 0, never},
		turn{10, api.ResAlert, api.StateAlerting, 10, 0, never},
		turn{12, api.ResNormal, api.StateAlerting, 10, 0, 12},
		turn{16, api.ResNormal, api.StateAlerting, 10, 0, 12},
		turn{17, api.ResNormal, api.StateNormal, 17, never, never},
	)
}

// P17.3: from each state, what each result of the four does, with a For and a
// Keep that are not over.
func TestStepFromEachState(t *testing.T) {
	h := holds(1000, 1000)
	for _, x := range everyone() {
		breached, calmed := since(pending(100), 100), since(normal(), 100)
		switch x.State {
		case api.StateNormal:
			calmed = x
		case api.StatePending:
			breached = x
		case api.StateAlerting:
			breached, calmed = x, x
			breached.Quiet = never
			if x.Quiet == never {
				calmed.Quiet = 100
			}
		}
		steps(t, "ResAlert", x, h, api.ResAlert, 100, breached)
		steps(t, "ResNormal", x, h, api.ResNormal, 100, calmed)

		empty, wrong := since(noData(), 100), since(failed(), 100)
		switch x.State {
		case api.StateNoData:
			empty = x
		case api.StateError:
			wrong = x
		}
		steps(t, "ResNoData", x, h, api.ResNoData, 100, empty)
		steps(t, "ResError", x, h, api.ResError, 100, wrong)
	}
}

// P17.3: from each state, with a For of 0 and a Keep of 0.
func TestStepFromEachStateAtOnce(t *testing.T) {
	h := holds(0, 0)
	for _, x := range everyone() {
		breached, calmed := since(alerting(100, never), 100), since(normal(), 100)
		switch x.State {
		case api.StateNormal:
			calmed = x
		case api.StatePending:
			breached.From = x.From
		case api.StateAlerting:
			breached = x
			breached.Quiet = never
		}
		steps(t, "ResAlert", x, h, api.ResAlert, 100, breached)
		steps(t, "ResNormal", x, h, api.ResNormal, 100, calmed)
	}
}

// P17.3: what comes to nothing changes Seen and Value, and nothing more: a result
// that is none, the policy PolicyKeep, and a policy that is none.
func TestStepOfNothing(t *testing.T) {
	for _, x := range everyone() {
		for _, result := range noResults() {
			steps(t, "no result", x, holds(0, 0), result, 100, x)
			steps(t, "no result", x, byPolicies(api.PolicyAlert, api.PolicyNormal), result, 100, x)
		}
		for _, policy := range append(noPolicies(), api.PolicyKeep) {
			steps(t, "ResNoData", x, byPolicies(policy, api.PolicyAlert), api.ResNoData, 100, x)
			steps(t, "ResError", x, byPolicies(api.PolicyAlert, policy), api.ResError, 100, x)
		}
	}
}

// P17.3: a result that comes to another one does what that does.
func TestStepByPolicies(t *testing.T) {
	for _, x := range everyone() {
		for _, now := range []int64{90, 94, 95, 99, 100, 101, 1000} {
			for _, c := range []struct{ policy, as int }{{api.PolicyAlert, api.ResAlert}, {api.PolicyNormal, api.ResNormal}} {
				want := state.Step(x, byPolicies(0, 0), c.as, num(1), now)
				steps(t, "ResNoData", x, byPolicies(c.policy, api.PolicyKeep), api.ResNoData, now, want)
				steps(t, "ResError", x, byPolicies(api.PolicyKeep, c.policy), api.ResError, now, want)
			}
		}
	}
}

// P17.3: a For of 0 is over at once.
func TestStepWithoutFor(t *testing.T) {
	for _, now := range []int64{90, 91, 1 << 32, maxTime} {
		for _, x := range []api.Instance{normal(), noData(), failed()} {
			steps(t, "at once", x, holds(0, 5), api.ResAlert, now, since(alerting(now, never), now))
		}
		steps(t, "at once", pending(90), holds(0, 5), api.ResAlert, now, since(alerting(90, never), now))
	}
	runs(t, "at once", holds(0, 0),
		turn{0, api.ResAlert, api.StateAlerting, 0, 0, never},
		turn{1, api.ResAlert, api.StateAlerting, 0, 0, never},
		turn{2, api.ResNormal, api.StateNormal, 2, never, never},
		turn{2, api.ResAlert, api.StateAlerting, 2, 2, never},
	)
}

// P17.3: at just For, one less and one more.
func TestStepByFor(t *testing.T) {
	for _, wait := range []int64{1, 2, 10, 60, api.MaxHold - 1, api.MaxHold} {
		for _, from := range []int64{0, 1, 40, 1 << 32, maxTime - api.MaxHold - 1} {
			what := "For " + strconv.FormatInt(wait, 10)
			x, h := pending(from), holds(wait, 5)
			steps(t, what+", at once", x, h, api.ResAlert, from, x)
			steps(t, what+", one less", x, h, api.ResAlert, from+wait-1, x)
			steps(t, what+", just", x, h, api.ResAlert, from+wait, since(alerting(from, never), from+wait))
			steps(t, what+", one more", x, h, api.ResAlert, from+wait+1, since(alerting(from, never), from+wait+1))
			steps(t, what+", at the end", x, h, api.ResAlert, maxTime, since(alerting(from, never), maxTime))
			for _, x := range []api.Instance{normal(), noData(), failed()} {
				steps(t, what+", from another", x, h, api.ResAlert, from+wait, since(pending(from+wait), from+wait))
			}
		}
	}
}

// P17.3: a Keep of 0 is over at once, whatever Quiet was.
func TestStepWithoutKeep(t *testing.T) {
	for _, now := range []int64{90, 91, 1 << 32, maxTime} {
		for _, quiet := range []int64{never, 0, 60, 90} {
			steps(t, "at once", alerting(30, quiet), holds(10, 0), api.ResNormal, now, since(normal(), now))
		}
	}
}

// P17.3: at just Keep, one less and one more.
func TestStepByKeep(t *testing.T) {
	for _, keep := range []int64{1, 2, 5, 60, api.MaxHold - 1, api.MaxHold} {
		for _, quiet := range []int64{0, 1, 60, 1 << 32, maxTime - api.MaxHold - 1} {
			what := "Keep " + strconv.FormatInt(keep, 10)
			x, h := alerting(30, quiet), holds(10, keep)
			steps(t, what+", the first time", alerting(30, never), h, api.ResNormal, quiet, x)
			steps(t, what+", at once", x, h, api.ResNormal, quiet, x)
			steps(t, what+", one less", x, h, api.ResNormal, quiet+keep-1, x)
			steps(t, what+", just", x, h, api.ResNormal, quiet+keep, since(normal(), quiet+keep))
			steps(t, what+", one more", x, h, api.ResNormal, quiet+keep+1, since(normal(), quiet+keep+1))
			steps(t, what+", at the end", x, h, api.ResNormal, maxTime, since(normal(), maxTime))
		}
	}
}

// P17.3: Keep holds an alert alone, and no more than what comes to ResNormal.
func TestStepOfWhatIsNotKept(t *testing.T) {
	h := holds(10, api.MaxHold)
	for _, x := range []api.Instance{pending(90), noData(), failed()} {
		steps(t, "not alerting", x, h, api.ResNormal, 91, since(normal(), 91))
	}
	steps(t, "normal", normal(), h, api.ResNormal, 91, normal())
	for _, quiet := range []int64{never, 60, 90} {
		steps(t, "no data", alerting(30, quiet), h, api.ResNoData, 91, since(noData(), 91))
		steps(t, "an error", alerting(30, quiet), h, api.ResError, 91, since(failed(), 91))
	}
}

// P17.3: a breach that ends and begins again is reckoned from its own beginning.
func TestStepOfABreachThatBeginsAgain(t *testing.T) {
	for _, c := range []struct{ ending, state int }{
		{api.ResNormal, api.StateNormal}, {api.ResNoData, api.StateNoData}, {api.ResError, api.StateError},
	} {
		runs(t, "again", holds(10, 5),
			turn{0, api.ResAlert, api.StatePending, 0, 0, never},
			turn{9, api.ResAlert, api.StatePending, 0, 0, never},
			turn{10, c.ending, c.state, 10, never, never},
			turn{11, api.ResAlert, api.StatePending, 11, 11, never},
			turn{20, api.ResAlert, api.StatePending, 11, 11, never},
			turn{21, api.ResAlert, api.StateAlerting, 21, 11, never},
		)
	}
	runs(t, "again, at one time", holds(10, 0),
		turn{0, api.ResAlert, api.StatePending, 0, 0, never},
		turn{10, api.ResNormal, api.StateNormal, 10, never, never},
		turn{10, api.ResAlert, api.StatePending, 10, 10, never},
		turn{20, api.ResAlert, api.StateAlerting, 20, 10, never},
		turn{20, api.ResNormal, api.StateNormal, 20, never, never},
		turn{20, api.ResAlert, api.StatePending, 20, 20, never},
	)
}

// P17.3: what comes to nothing does not end a breach, and is none.
func TestStepOfABreachThatIsKept(t *testing.T) {
	h := api.Holds{For: 10, NoData: api.PolicyKeep, OnError: api.PolicyKeep}
	runs(t, "kept", h,
		turn{0, api.ResNoData, api.StateNormal, 0, never, never},
		turn{5, api.ResAlert, api.StatePending, 5, 5, never},
		turn{10, api.ResNoData, api.StatePending, 5, 5, never},
		turn{15, api.ResError, api.StatePending, 5, 5, never},
		turn{20, 9, api.StatePending, 5, 5, never},
		turn{21, api.ResAlert, api.StateAlerting, 21, 5, never},
		turn{22, api.ResError, api.StateAlerting, 21, 5, never},
		turn{23, api.ResNormal, api.StateNormal, 23, never, never},
		turn{24, api.ResError, api.StateNormal, 23, never, never},
	)
}

// P17.3: a breach behind Quiet takes it back, and the next Quiet is reckoned anew.
func TestStepOfABreachBehindQuiet(t *testing.T) {
	runs(t, "quiet again", holds(0, 5),
		turn{0, api.ResAlert, api.StateAlerting, 0, 0, never},
		turn{10, api.ResNormal, api.StateAlerting, 0, 0, 10},
		turn{14, api.ResNormal, api.StateAlerting, 0, 0, 10},
		turn{15, api.ResAlert, api.StateAlerting, 0, 0, never},
		turn{16, api.ResNormal, api.StateAlerting, 0, 0, 16},
		turn{20, api.ResNormal, api.StateAlerting, 0, 0, 16},
		turn{21, api.ResNormal, api.StateNormal, 21, never, never},
	)
	for _, quiet := range []int64{0, 60, 90} {
		steps(t, "long over", alerting(30, quiet), holds(10, 5), api.ResAlert, 1000, alerting(30, never))
		steps(t, "without Keep", alerting(30, quiet), holds(10, 0), api.ResAlert, 1000, alerting(30, never))
		steps(t, "nothing", alerting(30, quiet), byPolicies(api.PolicyKeep, 0), api.ResNoData, 1000, alerting(30, quiet))
	}
	// Quiet at 0 is a time, and not Never.
	steps(t, "quiet at 0", alerting(0, 0), holds(10, 100), api.ResNormal, 99, alerting(0, 0))
	steps(t, "quiet at 0", alerting(0, 0), holds(10, 100), api.ResNormal, 100, since(normal(), 100))
}

// P17.3: Since is when the instance came to the state that it is in, however often
// it is told of it.
func TestStepBySince(t *testing.T) {
	runs(t, "since", holds(3, 2),
		turn{1, api.ResNormal, api.StateNormal, 0, never, never},
		turn{2, api.ResNoData, api.StateNoData, 2, never, never},
		turn{3, api.ResNoData, api.StateNoData, 2, never, never},
		turn{4, api.ResError, api.StateError, 4, never, never},
		turn{5, api.ResError, api.StateError, 4, never, never},
		turn{6, api.ResNoData, api.StateNoData, 6, never, never},
		turn{7, api.ResAlert, api.StatePending, 7, 7, never},
		turn{8, api.ResAlert, api.StatePending, 7, 7, never},
		turn{10, api.ResAlert, api.StateAlerting, 10, 7, never},
		turn{11, api.ResAlert, api.StateAlerting, 10, 7, never},
		turn{12, api.ResNormal, api.StateAlerting, 10, 7, 12},
		turn{14, api.ResNormal, api.StateNormal, 14, never, never},
		turn{15, api.ResNormal, api.StateNormal, 14, never, never},
		turn{16, 0, api.StateNormal, 14, never, never},
		turn{17, api.ResError, api.StateError, 17, never, never},
		turn{18, api.ResNormal, api.StateNormal, 18, never, never},
	)
}

// P17.3: the edges of time.
func TestStepAtTheEdgesOfTime(t *testing.T) {
	x := state.New(0)
	if got := state.Step(x, holds(0, 0), api.ResNormal, null, 0); got != x {
		t.Errorf("at 0: %+v", got)
	}
	x = state.Step(x, holds(api.MaxHold, 0), api.ResAlert, num(1), 0)
	want := api.Instance{State: api.StatePending, Since: 0, From: 0, Quiet: never, Seen: 0, Value: num(1)}
	if x != want {
		t.Errorf("at 0: %+v, want %+v", x, want)
	}
	x = state.Step(x, holds(api.MaxHold, 0), api.ResAlert, num(2), maxTime)
	want = api.Instance{State: api.StateAlerting, Since: maxTime, From: 0, Quiet: never, Seen: maxTime, Value: num(2)}
	if x != want {
		t.Errorf("at the end: %+v, want %+v", x, want)
	}
	x = state.Step(x, holds(api.MaxHold, 1), api.ResNormal, num(3), maxTime)
	want.Quiet, want.Value = maxTime, num(3)
	if x != want {
		t.Errorf("at the end: %+v, want %+v", x, want)
	}
}

// P17.3: a time ahead of those that are kept is no later than them, and a Keep of
// 0 asks for none.
func TestStepOfATimeThatIsOver(t *testing.T) {
	for _, wait := range []int64{0, 1, 10} {
		steps(t, "ahead of From", pending(90), holds(wait, 5), api.ResAlert, 89, pending(90))
	}
	for _, keep := range []int64{1, 5} {
		steps(t, "ahead of Quiet", alerting(30, 90), holds(10, keep), api.ResNormal, 89, alerting(30, 90))
	}
	steps(t, "ahead of Quiet", alerting(30, 90), holds(10, 0), api.ResNormal, 89, since(normal(), 89))
}

// P17.3: the words hold of an instance that may not be, too: a From counts in
// StatePending alone, and a Quiet in StateAlerting.
func TestStepOfWhatMayNotBe(t *testing.T) {
	for _, kind := range append(noStates(), api.StateNormal, api.StateNoData, api.StateError) {
		x := instance(kind, 30, 60)
		for _, c := range []struct {
			h      api.Holds
			result int
			want   api.Instance
		}{
			{holds(0, 5), api.ResAlert, since(alerting(100, never), 100)},
			{holds(10, 5), api.ResNormal, since(normal(), 100)},
			{holds(10, 5), api.ResNoData, since(noData(), 100)},
			{holds(10, 5), api.ResError, since(failed(), 100)},
		} {
			c.want.Seen, c.want.Value = 100, null
			if c.want.State == kind {
				c.want.Since = x.Since
			}
			if got := state.Step(x, c.h, c.result, null, 100); got != c.want {
				t.Errorf("Step(%+v, %d): %+v, want %+v", x, c.result, got, c.want)
			}
		}
	}
}

// P17.3: Seen and Value are those of the evaluation, also where they are none.
func TestStepTellsWhatWasSeen(t *testing.T) {
	for _, x := range everyone() {
		for _, result := range append(noResults(), allResults()...) {
			for _, v := range noValues() {
				got := state.Step(x, holds(10, 5), result, v, 100)
				if got.Seen != 100 || got.Value != v {
					t.Fatalf("Step(%+v, %d, %v): %+v", x, result, v, got)
				}
				mayNot(t, "no value", got)
			}
		}
	}
}

// The first rule that holds everywhere: every call ends, and none panics.
func TestWhateverIsGiven(t *testing.T) {
	wild := []int64{math.MinInt64, math.MinInt64 + 1, -maxTime, -2, -1, 0, 1, 5, maxTime + 1, math.MaxInt64}
	for _, n := range wild {
		state.New(n)
		for _, m := range wild {
			for _, kind := range append(noStates(), allStates()...) {
				x := api.Instance{State: kind, Since: n, From: m, Quiet: n, Seen: m, Value: api.Value{Kind: int(n), N: m}}
				state.Check(x)
				for _, result := range append(noResults(), allResults()...) {
					h := api.Holds{For: m, Keep: n, NoData: int(m), OnError: int(n)}
					state.Means(h, result)
					got := state.Step(x, h, result, x.Value, n)
					if got.Seen != n || got.Value != x.Value {
						t.Fatalf("Step(%+v, %+v, %d): %+v", x, h, result, got)
					}
				}
			}
		}
	}
}
