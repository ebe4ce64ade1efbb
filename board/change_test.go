package board_test

import (
	"slices"
	"testing"

	"klaxon/api"
)

// P18.3: by State alone: from each state, and with each result.
func TestChangesByState(t *testing.T) {
	for _, ahead := range allStates() {
		for _, kind := range []int{1, 2, 3, 4} {
			for _, v := range someValues() {
				behind := map[int]int{1: api.StateNormal, 2: api.StateAlerting, 3: api.StateNoData, 4: api.StateError}[kind]
				since := int64(100)
				var changes []api.Change
				if ahead == behind {
					since = 3
				} else {
					changes = []api.Change{change(host("1"), ahead, behind, v)}
				}
				want := instance(behind, since, 100, v)
				if ahead == api.StatePending && behind == api.StateAlerting {
					want.From = 3
				}
				comes(t, "one", at100([]api.Entry{entry(host("1"), seenAt(ahead, 90))}, result(host("1"), kind, v)), []api.Entry{entry(host("1"), want)}, changes...)
			}
		}
	}
}

// P18.3: of an entry whose State is the same none is told, whatever else of it
// is another one.
func TestNoChangeOfTheSameState(t *testing.T) {
	h := api.Holds{For: 1000, Keep: 1000, NoData: api.PolicyKeep, OnError: api.PolicyKeep}
	kinds := map[int][]int{
		api.StateNormal:   {1, 3, 4, 0},
		api.StatePending:  {2, 3, 4, 0},
		api.StateAlerting: {1, 2, 3, 4, 0},
		api.StateNoData:   {3, 4, 0},
		api.StateError:    {3, 4, 0},
	}
	for state, l := range kinds {
		for _, kind := range l {
			for _, v := range someValues() {
				u := at100([]api.Entry{entry(host("1"), seenAt(state, 5))}, result(host("1"), kind, v))
				u.h = h
				want := instance(state, 3, 100, v)
				if state == api.StateAlerting && kind == 1 {
					want.Quiet = 100
				}
				comes(t, "the same", u, []api.Entry{entry(host("1"), want)})
			}
		}
	}
}

// P18.3: of what is taken away in each of the five states, with whichever value.
func TestChangesOfWhatIsTakenAway(t *testing.T) {
	for _, ahead := range allStates() {
		for _, v := range someValues() {
			var changes []api.Change
			if ahead != api.StateNormal {
				changes = []api.Change{change(host("1"), ahead, api.StateNormal, null)}
			}
			comes(t, "taken away", at100([]api.Entry{entry(host("1"), instance(ahead, 3, 80, v))}), nil, changes...)
			comes(t, "not yet", at100([]api.Entry{entry(host("1"), instance(ahead, 3, 81, v))}), []api.Entry{entry(host("1"), instance(ahead, 3, 81, v))})
		}
	}
}

// P18.3: what alerted and was quiet is as all that is taken away.
func TestChangeOfAQuietOneThatIsTakenAway(t *testing.T) {
	x := seenAt(api.StateAlerting, 80)
	x.Quiet = 80
	u := at100([]api.Entry{entry(nil, x)})
	u.h = api.Holds{For: 1000, Keep: 1000, NoData: api.PolicyKeep, OnError: api.PolicyKeep}
	comes(t, "taken away", u, nil, over(nil, 3))
}

// P18.2, P18.3: by rising Labels: what was there, what is new and what is taken
// away among one another, in whichever order the results come.
func TestTheOrderOfWhatIsTold(t *testing.T) {
	var b, want []api.Entry
	var l []api.Result
	var changes []api.Change
	for i, x := range rising() {
		switch i % 3 {
		case 0: // is there, and stays
			b = append(b, entry(x, seenAt(api.StateNormal, 10)))
			l = append(l, result(x, api.ResAlert, num(5)))
			want = append(want, entry(x, instance(3, 100, 100, num(5))))
			changes = append(changes, change(x, 1, 3, num(5)))
		case 1: // is new
			l = append(l, result(x, api.ResError, num(6)))
			want = append(want, entry(x, instance(5, 100, 100, num(6))))
			changes = append(changes, change(x, 1, 5, num(6)))
		case 2: // is taken away
			b = append(b, entry(x, seenAt(api.StateAlerting, 80)))
			changes = append(changes, over(x, 3))
		}
	}
	comes(t, "as they rise", at100(b, l...), want, changes...)
	slices.Reverse(l)
	comes(t, "as they fall", at100(b, l...), want, changes...)
	for i := range l {
		l[i].Labels = slices.Clone(l[i].Labels)
		slices.Reverse(l[i].Labels)
		slices.Reverse(l[:i+1])
	}
	comes(t, "in another order", at100(b, l...), want, changes...)
}

// P18.3: the order is that behind own labels.
func TestTheOrderIsThatWithOwnLabels(t *testing.T) {
	u := at100(nil, result(list("a", "1"), 2, num(1)), result(list("b", "1"), 2, num(2)), result(list("c", "1"), 2, num(3))).with(list("a", "9", "b", "8")...)
	both, three := list("a", "9", "b", "8"), list("a", "9", "b", "8", "c", "1")
	comes(t, "with own labels", u, []api.Entry{entry(both, instance(3, 100, 100, num(1))), entry(three, instance(3, 100, 100, num(3)))},
		change(both, 1, 3, num(1)), change(three, 1, 3, num(3)))
	u = at100(nil, result(list("b", "1"), 2, num(1)), result(list("c", "1", "a", "2"), 2, num(2))).with(list("a", "9")...)
	first, second := list("a", "9", "b", "1"), list("a", "9", "c", "1")
	comes(t, "in another order", u, []api.Entry{entry(first, instance(3, 100, 100, num(1))), entry(second, instance(3, 100, 100, num(2)))},
		change(first, 1, 3, num(1)), change(second, 1, 3, num(2)))
}

// P18.3: of many at a time.
func TestAllChangesOfAFullBoard(t *testing.T) {
	var want []api.Entry
	var changes, gone []api.Change
	for i, x := range many(api.MaxInstances) {
		want = append(want, entry(x.Labels, instance(5, 100, 100, null)))
		if x.Instance.State == api.StateError {
			want[i].Instance.Since = 3
		} else {
			changes = append(changes, change(x.Labels, x.Instance.State, 5, null))
		}
		if x.Instance.State != api.StateNormal {
			gone = append(gone, over(x.Labels, x.Instance.State))
		}
	}
	comes(t, "of all", at100(many(api.MaxInstances), result(nil, api.ResError, null)), want, changes...)
	u := at100(many(api.MaxInstances))
	u.now = 110
	comes(t, "all that is taken away", u, nil, gone...)
}
