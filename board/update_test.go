package board_test

import (
	"slices"
	"strings"
	"testing"

	"klaxon/api"
	"klaxon/board"
	"klaxon/state"
)

// allPolicies is holds with each policy for both, that differ.
func allPolicies() []api.Holds {
	var l []api.Holds
	for policy := 1; policy <= 4; policy++ {
		l = append(l, api.Holds{For: 10, Keep: 5, NoData: policy, OnError: 1 + policy%4})
	}
	return l
}

// P18.2: what is said without Labels is said of all, and of these five nothing is
// taken away, however long ago they were seen.
func TestOneResultWithoutLabels(t *testing.T) {
	for _, l := range [][]api.Label{nil, {}, make([]api.Label, 0, 3)} {
		u := at100(hosts(90), result(l, api.ResNoData, num(5)))
		comes(t, "ResNoData", u, []api.Entry{
			entry(host("1"), instance(api.StateNoData, 100, 100, num(5))),
			entry(host("2"), instance(api.StateNoData, 100, 100, num(5))),
			entry(host("3"), instance(api.StateNoData, 100, 100, num(5))),
			entry(host("4"), instance(api.StateNoData, 3, 100, num(5))),
			entry(host("5"), instance(api.StateNoData, 100, 100, num(5))),
		}, change(host("1"), 1, 4, num(5)), change(host("2"), 2, 4, num(5)), change(host("3"), 3, 4, num(5)), change(host("5"), 5, 4, num(5)))
		u = at100(hosts(4), result(l, api.ResError, null))
		comes(t, "ResError", u, []api.Entry{
			entry(host("1"), instance(api.StateError, 100, 100, null)),
			entry(host("2"), instance(api.StateError, 100, 100, null)),
			entry(host("3"), instance(api.StateError, 100, 100, null)),
			entry(host("4"), instance(api.StateError, 100, 100, null)),
			entry(host("5"), instance(api.StateError, 3, 100, null)),
		}, change(host("1"), 1, 5, null), change(host("2"), 2, 5, null), change(host("3"), 3, 5, null), change(host("4"), 4, 5, null))
	}
}

// P18.2: by all policies, of boards of all sizes, with own labels and without.
func TestOneResultWithoutLabelsIsOfEveryEntry(t *testing.T) {
	for _, n := range []int{1, 2, 5, api.MaxInstances - 1, api.MaxInstances} {
		for _, h := range allPolicies() {
			for _, kind := range []int{api.ResNoData, api.ResError} {
				for _, own := range [][]api.Label{nil, list("sev", "crit"), numbered(0), wide(api.MaxLabels)} {
					for _, now := range []int64{90, 91, 110, 1 << 30, maxTime} {
						var want []api.Entry
						for _, x := range many(n) {
							want = append(want, entry(x.Labels, state.Step(x.Instance, h, kind, num(9), now)))
						}
						u := update{b: many(n), h: h, own: own, interval: 10, now: now, l: []api.Result{result(nil, kind, num(9))}}
						comes(t, "of every entry", u, want, saidChanges(u.b, want)...)
					}
				}
			}
		}
	}
}

// P18.2: of a board of none there is nothing of which it could be said: it is
// said of a new entry.
func TestOneResultWithoutLabelsOfABoardOfNone(t *testing.T) {
	for _, b := range [][]api.Entry{nil, {}, many(3)[:0]} {
		comes(t, "ResNoData", at100(b, result(nil, api.ResNoData, null)),
			[]api.Entry{entry(nil, instance(api.StateNoData, 100, 100, null))}, change(nil, 1, 4, null))
		comes(t, "ResError", at100(b, result(nil, api.ResError, nan)).with(list("a", "1", "sev", "crit")...),
			[]api.Entry{entry(list("a", "1", "sev", "crit"), instance(api.StateError, 100, 100, nan))}, change(list("a", "1", "sev", "crit"), 1, 5, nan))
		// The next one is of this entry.
		next, _ := at100(b, result(nil, api.ResError, nan)).do()
		comes(t, "and then", at100(next, result(nil, api.ResNoData, null)).with(host("1")...),
			[]api.Entry{entry(nil, instance(api.StateNoData, 100, 100, null))}, change(nil, 5, 4, null))
	}
}

// P18.2: what is said without Labels, and is of another Kind, is said of the
// entry of own labels, and of what is not told what was not seen is taken away.
func TestOneResultWithoutLabelsOfAnotherKind(t *testing.T) {
	stale := []api.Change{over(host("2"), 2), over(host("3"), 3), over(host("4"), 4), over(host("5"), 5)}
	comes(t, "ResNormal", at100(hosts(80), result(nil, api.ResNormal, num(1))),
		[]api.Entry{entry(nil, instance(api.StateNormal, 100, 100, num(1)))}, stale...)
	comes(t, "ResAlert", at100(hosts(80), result(nil, api.ResAlert, num(1))),
		[]api.Entry{entry(nil, instance(api.StateAlerting, 100, 100, num(1)))}, append([]api.Change{change(nil, 1, 3, num(1))}, stale...)...)
	comes(t, "ResAlert of what is there", at100(hosts(80), result(nil, api.ResAlert, num(1))).with(host("4")...),
		[]api.Entry{entry(host("4"), instance(api.StateAlerting, 100, 100, num(1)))},
		over(host("2"), 2), over(host("3"), 3), change(host("4"), 4, 3, num(1)), over(host("5"), 5))
	for _, kind := range noResults() {
		comes(t, "of no kind", at100(hosts(80), result(nil, kind, num(1))),
			[]api.Entry{entry(nil, instance(api.StateNormal, 100, 100, num(1)))}, stale...)
		comes(t, "of no kind, of what is there", at100(hosts(80), result(nil, kind, num(1))).with(host("4")...),
			[]api.Entry{entry(host("4"), instance(api.StateNoData, 3, 100, num(1)))}, over(host("2"), 2), over(host("3"), 3), over(host("5"), 5))
	}
}

// P18.2: own labels are not Labels of the result.
func TestOneResultWithoutLabelsThatHasOwnOnes(t *testing.T) {
	own := list("own", "1")
	comes(t, "of all", at100([]api.Entry{entry(host("1"), seenAt(1, 3)), entry(own, seenAt(1, 3))}, result(nil, api.ResError, null)).with(own...),
		[]api.Entry{entry(host("1"), instance(5, 100, 100, null)), entry(own, instance(5, 100, 100, null))},
		change(host("1"), 1, 5, null), change(own, 1, 5, null))
	comes(t, "nothing new", at100([]api.Entry{entry(host("1"), seenAt(5, 3))}, result(nil, api.ResError, null)).with(own...),
		[]api.Entry{entry(host("1"), instance(5, 3, 100, null))})
	comes(t, "ResAlert", at100([]api.Entry{entry(host("1"), seenAt(5, 95))}, result(nil, api.ResAlert, null)).with(own...),
		[]api.Entry{entry(host("1"), seenAt(5, 95)), entry(own, instance(3, 100, 100, null))}, change(own, 1, 3, null))
}

// P18.2: one with Labels, that are own ones too, is of itself.
func TestOneResultWithLabels(t *testing.T) {
	for _, own := range [][]api.Label{nil, host("2")} {
		comes(t, "ResNoData", at100(hosts(81), result(host("2"), api.ResNoData, null)).with(own...), []api.Entry{
			entry(host("1"), seenAt(1, 81)), entry(host("2"), instance(4, 100, 100, null)),
			entry(host("3"), seenAt(3, 81)), entry(host("4"), seenAt(4, 81)), entry(host("5"), seenAt(5, 81)),
		}, change(host("2"), 2, 4, null))
	}
	comes(t, "ResError of what may not be", at100(hosts(80), result(list("", ""), api.ResError, null)), nil,
		over(host("2"), 2), over(host("3"), 3), over(host("4"), 4), over(host("5"), 5))
}

// P18.2: two results are not one, though one has no Labels, or both have none.
func TestTwoResultsOfWhichOneIsWithoutLabels(t *testing.T) {
	b := []api.Entry{entry(host("1"), seenAt(3, 95)), entry(host("2"), seenAt(3, 80))}
	none, one := result(nil, api.ResError, null), result(host("1"), api.ResNormal, num(2))
	for _, l := range [][]api.Result{{none, one}, {one, none}} {
		comes(t, "two", at100(b, l...),
			[]api.Entry{entry(nil, instance(5, 100, 100, null)), entry(host("1"), instance(1, 100, 100, num(2)))},
			change(nil, 1, 5, null), change(host("1"), 3, 1, num(2)), over(host("2"), 3))
	}
	comes(t, "both", at100(b, none, result(nil, api.ResNoData, null)),
		[]api.Entry{entry(nil, instance(5, 100, 100, null)), entry(host("1"), seenAt(3, 95))},
		change(nil, 1, 5, null), over(host("2"), 3))
	comes(t, "one that may not be", at100(b, none, result(list("", ""), api.ResNoData, null)),
		[]api.Entry{entry(nil, instance(5, 100, 100, null)), entry(host("1"), seenAt(3, 95))},
		change(nil, 1, 5, null), over(host("2"), 3))
}

// P18.2: nothing is said of nothing.
func TestNoResults(t *testing.T) {
	for _, l := range [][]api.Result{nil, {}} {
		comes(t, "of none", at100(nil, l...), nil)
		comes(t, "seen lately", at100(hosts(81), l...), hosts(81))
		comes(t, "seen long ago", at100(hosts(80), l...), nil,
			over(host("2"), 2), over(host("3"), 3), over(host("4"), 4), over(host("5"), 5))
	}
}

// P18.2: the first of those with the same key counts, in whichever order their
// Labels stand.
func TestResultsOfTheSameKey(t *testing.T) {
	set := list("a", "1", "b", "2")
	alerts := []api.Entry{entry(set, instance(3, 100, 100, num(1)))}
	for _, second := range []int{1, 2, 3, 4, 0} {
		comes(t, "a new one", at100(nil, result(set, 2, num(1)), result(set, second, num(9))), alerts, change(set, 1, 3, num(1)))
		comes(t, "the other way round", at100(nil, result(list("b", "2", "a", "1"), 2, num(1)), result(set, second, num(9))), alerts, change(set, 1, 3, num(1)))
		comes(t, "one that is there", at100([]api.Entry{entry(set, seenAt(1, 50))}, result(set, 2, num(1)), result(set, second, num(9)), result(list("b", "2", "a", "1"), second, num(9))),
			alerts, change(set, 1, 3, num(1)))
	}
	comes(t, "the same by own labels", at100(nil, result(list("a", "7"), 2, num(1)), result(list("a", "8"), 1, num(2)), result(nil, 1, num(3))).with(list("a", "1", "b", "2")...),
		alerts, change(set, 1, 3, num(1)))
	comes(t, "not the same", at100(nil, result(list("a", "1"), 2, num(1)), result(list("a", "1", "b", "1"), 1, num(2)), result(list("a", "11"), 1, num(3))),
		[]api.Entry{entry(list("a", "1"), instance(3, 100, 100, num(1))), entry(list("a", "1", "b", "1"), instance(1, 100, 100, num(2))), entry(list("a", "11"), instance(1, 100, 100, num(3)))},
		change(list("a", "1"), 1, 3, num(1)))
	// What looks like another set, were signs not marked.
	tricky := [][]api.Label{list("a", "1\",b=\"2"), list("a", "1", "b", "2"), list("a", "1\\", "b", "2"), list("a", "1\\\",b=\"2")}
	var l []api.Result
	for _, x := range tricky {
		l = append(l, result(x, 1, null))
	}
	if b, _ := at100(nil, l...).do(); len(b) != len(tricky) {
		t.Errorf("%d entries: %s", len(b), brief(b))
	}
}

// P18.2: own labels take the place of those of a result.
func TestLabelsAndOwnOnesThatClash(t *testing.T) {
	own := list("a", "own", "z", "own")
	for _, c := range []struct{ of, want []api.Label }{
		{nil, own},
		{list("a", "1"), own},
		{list("z", "1", "a", "1"), own},
		{list("b", "1"), list("a", "own", "b", "1", "z", "own")},
		{list("zz", "1", "z", "1", "A", "1"), list("A", "1", "a", "own", "z", "own", "zz", "1")},
		// What may not be is not there any more when own labels are.
		{list("a", ""), own},
		{list("a", "1", "a", "2", "z", strings.Repeat("1", api.MaxLabel+1), "a", "1"), own},
	} {
		comes(t, "new", at100(nil, result(c.of, 2, null)).with(own...), []api.Entry{entry(c.want, instance(3, 100, 100, null))}, change(c.want, 1, 3, null))
		comes(t, "there", at100([]api.Entry{entry(c.want, seenAt(1, 90))}, result(c.of, 2, null)).with(own...), []api.Entry{entry(c.want, instance(3, 100, 100, null))}, change(c.want, 1, 3, null))
	}
	most := wide(api.MaxLabels)
	most[2].Value = "own"
	comes(t, "as many as there may be", at100(nil, result(wide(api.MaxLabels), 2, null)).with(most[2]), []api.Entry{entry(most, instance(3, 100, 100, null))}, change(most, 1, 3, null))
}

// P18.2: where there are no such labels the result is passed over, and all else
// goes on.
func TestResultsWithoutAKey(t *testing.T) {
	ahead, behind := result(host("1"), 2, num(1)), result(host("2"), 2, num(2))
	for _, wrong := range append(unmakable(), list("own", "1", "b", "")) {
		for _, kind := range []int{1, 2, 3, 4, 0} {
			one := result(wrong, kind, num(3))
			for _, own := range [][]api.Label{nil, list("own", "2")} {
				h1, h2 := append(host("1"), own...), append(host("2"), own...)
				want := []api.Entry{entry(h1, instance(3, 100, 100, num(1))), entry(h2, instance(3, 100, 100, num(2)))}
				comes(t, "passed over", at100(nil, one, ahead, one, one, behind).with(own...), want, change(h1, 1, 3, num(1)), change(h2, 1, 3, num(2)))
				comes(t, "alone", at100(many(2), one).with(own...), many(2))
			}
		}
	}
	full := wide(api.MaxLabels)
	comes(t, "one label too many with own ones", at100(nil, result(full, 2, null)).with(list("own", "1")...), nil)
	comes(t, "own ones that are as many as there may be", at100(nil, result(host("1"), 2, null)).with(full...), nil)
	comes(t, "and none beside them", at100(nil, result(nil, 1, null)).with(full...), []api.Entry{entry(full, instance(1, 100, 100, null))})
	// One that is passed over has no key: the next one of its name counts.
	comes(t, "the next one", at100(nil, result(list("a", "1", "a", "1"), 1, null), result(list("a", "1"), 2, null)),
		[]api.Entry{entry(list("a", "1"), instance(3, 100, 100, null))}, change(list("a", "1"), 1, 3, null))
}

// alerting is results of hosts of these numbers that alert.
func alerting(numbers ...int) []api.Result {
	var l []api.Result
	for _, n := range numbers {
		l = append(l, result(numbered(n), api.ResAlert, num(int64(n))))
	}
	return l
}

// alert is the entry that such a result makes at 100.
func alert(n int) api.Entry { return entry(numbered(n), instance(3, 100, 100, num(int64(n)))) }

func alerts(n int) api.Change { return change(numbered(n), 1, 3, num(int64(n))) }

// P18.2: in a full board what is there is stepped, and what is not is passed over.
func TestAFullBoard(t *testing.T) {
	b := many(api.MaxInstances)
	comes(t, "all that is new", at100(b, alerting(500, 501, 200)...), b)
	want := slices.Clone(b)
	want[0], want[99] = alert(0), entry(numbered(99), instance(3, 100, 100, num(99)))
	comes(t, "what is there", at100(b, alerting(500, 0, 200, 99, 500, 99)...), want, alerts(0), change(numbered(99), 5, 3, num(99)))
	// Twice the same that there is no room for.
	comes(t, "the same", at100(b, alerting(500, 500)...), b)
}

// P18.2: of more than there is room for the first ones count, by the order in
// which they come.
func TestABoardWithOnePlaceLeft(t *testing.T) {
	b := many(api.MaxInstances - 1)
	comes(t, "one", at100(b, alerting(500)...), append(slices.Clone(b), alert(500)), alerts(500))
	comes(t, "two", at100(b, alerting(501, 500)...), append(slices.Clone(b), alert(501)), alerts(501))
	comes(t, "the same twice, and another one", at100(b, alerting(501, 501, 500, 501)...), append(slices.Clone(b), alert(501)), alerts(501))
	want := append(slices.Clone(b), alert(501))
	want[0] = alert(0)
	comes(t, "one that is there takes no place", at100(b, alerting(0, 501, 500)...), want, alerts(0), alerts(501))
	without := append([]api.Result{result(list("", ""), 2, null), result(list("a", "1", "a", "1"), 2, null)}, alerting(501, 500)...)
	comes(t, "what is passed over takes no place", at100(b, without...), append(slices.Clone(b), alert(501)), alerts(501))
}

// P18.2: from a board of none on.
func TestMoreResultsThanABoardHas(t *testing.T) {
	var l []api.Result
	var want []api.Entry
	var changes []api.Change
	for n := 300; n > 0; n-- {
		l = append(l, alerting(n, n)...)
		if n > 200 {
			want, changes = append(want, alert(n)), append(changes, alerts(n))
		}
	}
	slices.Reverse(want)
	slices.Reverse(changes)
	comes(t, "the first MaxInstances", at100(nil, l...), want, changes...)
}

// P18.2: what is taken away leaves its place to the next evaluation.
func TestATakenPlaceIsFreeForTheNextEvaluation(t *testing.T) {
	b := many(api.MaxInstances)
	b[7].Instance = seenAt(api.StatePending, 80)
	left := slices.Delete(slices.Clone(b), 7, 8)
	comes(t, "full", at100(b, alerting(500)...), left, over(numbered(7), 2))
	comes(t, "and then", at100(left, alerting(500, 501)...), append(slices.Clone(left), alert(500)), alerts(500))

	b = b[:api.MaxInstances-1]
	left = append(slices.Delete(slices.Clone(b), 7, 8), alert(501))
	comes(t, "one place left", at100(b, alerting(501, 500)...), left, over(numbered(7), 2), alerts(501))
	comes(t, "and that is the next", at100(left, alerting(502, 500)...), append(slices.Clone(left), alert(502)), alerts(502))
	b[7] = alert(7)
	comes(t, "told again", at100(b[:9], alerting(7)...), b[:9])
}

// P18.2: by when they were seen, and no entry that was stepped.
func TestWhatIsNotToldAnyMore(t *testing.T) {
	for _, interval := range []int64{1, 2, 10, 60, api.MaxInterval} {
		for _, now := range []int64{2 * interval, 2*interval + 1, 1 << 33, maxTime - 1, maxTime} {
			for _, c := range []struct {
				ago  int64
				gone bool
			}{
				{-1, false}, {0, false}, {1, false}, {2*interval - 1, false}, {2 * interval, true}, {2*interval + 1, true}, {now, true},
			} {
				if c.ago > now || now-c.ago > maxTime {
					continue
				}
				b := hosts(now - c.ago)
				u := update{b: b, h: holds(), interval: interval, now: now}
				// The third one is told of, and stays.
				u.l = []api.Result{result(host("3"), api.ResAlert, num(7))}
				alert := entry(host("3"), seenAt(3, now))
				if c.gone {
					comes(t, "gone", u, []api.Entry{alert}, over(host("2"), 2), over(host("4"), 4), over(host("5"), 5))
				} else {
					comes(t, "not gone", u, []api.Entry{b[0], b[1], alert, b[3], b[4]})
				}
			}
		}
	}
}

// P18.2: each by itself.
func TestWhatIsNotToldAnyMoreEachByItself(t *testing.T) {
	var b, want []api.Entry
	var changes []api.Change
	for i := range 60 {
		x := entry(numbered(i), seenAt(1+i%5, int64(50+i)))
		b = append(b, x)
		if 50+i > 80 {
			want = append(want, x)
		} else if i%5 > 0 {
			changes = append(changes, over(numbered(i), 1+i%5))
		}
	}
	comes(t, "by when they were seen", at100(b), want, changes...)
}

// P18.2: a new entry is one step behind state.New(now).
func TestNewEntries(t *testing.T) {
	for _, c := range []struct {
		what string
		h    api.Holds
		kind int
		want int
	}{
		{"normal", api.Holds{For: 10, NoData: 1, OnError: 1}, api.ResNormal, api.StateNormal},
		{"kept", api.Holds{NoData: api.PolicyKeep, OnError: 1}, api.ResNoData, api.StateNormal},
		{"normal by its policy", api.Holds{NoData: 1, OnError: api.PolicyNormal}, api.ResError, api.StateNormal},
		{"of no kind", api.Holds{NoData: 2, OnError: 2}, 9, api.StateNormal},
		{"alerting at once", api.Holds{NoData: 1, OnError: 1}, api.ResAlert, api.StateAlerting},
		{"pending", api.Holds{For: 1, NoData: 1, OnError: 1}, api.ResAlert, api.StatePending},
		{"pending by its policy", api.Holds{For: 10, NoData: 1, OnError: api.PolicyAlert}, api.ResError, api.StatePending},
		{"without data", api.Holds{For: 10, NoData: 1, OnError: 2}, api.ResNoData, api.StateNoData},
		{"failed", api.Holds{For: 10, NoData: 2, OnError: 1}, api.ResError, api.StateError},
	} {
		for _, v := range someValues() {
			want := instance(c.want, 100, 100, v)
			u := at100(many(2), result(host("new"), c.kind, v))
			u.h = c.h
			var changes []api.Change
			if c.want != api.StateNormal {
				changes = []api.Change{change(host("new"), api.StateNormal, c.want, v)}
			}
			comes(t, c.what, u, append(many(2), entry(host("new"), want)), changes...)
		}
	}
}

// P18.2: For and Keep hold through evaluations, and through those that say
// nothing of it.
func TestHoldsThroughEvaluations(t *testing.T) {
	h := api.Holds{For: 20, Keep: 10, NoData: api.PolicyState, OnError: api.PolicyKeep}
	told := func(kind int) []api.Result { return []api.Result{result(host("1"), kind, num(1))} }
	other := []api.Result{result(host("2"), api.ResNormal, num(1))}
	var b []api.Entry
	for _, c := range []struct {
		now  int64
		l    []api.Result
		want int
	}{
		{0, told(2), 2}, {10, other, 2}, {19, told(2), 2}, {20, told(2), 3}, {25, told(1), 3}, {34, told(1), 3}, {34, other, 3},
		{35, []api.Result{result(nil, api.ResError, null)}, 3}, {36, told(1), 1}, {40, told(4), 1}, {41, []api.Result{result(nil, api.ResNoData, null)}, 4}, {45, told(2), 2}, {64, told(2), 2}, {65, told(2), 3},
	} {
		b, _ = update{b: b, h: h, interval: 10, now: c.now, l: c.l}.do()
		if i := place(b, host("1")); i < 0 || b[i].Instance.State != c.want {
			t.Fatalf("at %d: %s, want state %d", c.now, brief(b), c.want)
		}
	}
}

// P18.2: the first of the document's examples.
func TestExample(t *testing.T) {
	h := api.Holds{NoData: api.PolicyState, OnError: api.PolicyState}
	b, c := board.Update(nil, h, nil, 10, 0, result(list("h", "1"), api.ResAlert, num(1000)))
	if !sameChanges(c, []api.Change{change(list("h", "1"), 1, 3, num(1000))}) || len(b) != 1 {
		t.Fatalf("%s, %s", brief(b), brief(c))
	}
	b, c = board.Update(b, h, nil, 10, 10)
	if len(b) != 1 || len(c) != 0 {
		t.Fatalf("%s, %s", brief(b), brief(c))
	}
	b, c = board.Update(b, h, nil, 10, 20)
	if len(b) != 0 || !sameChanges(c, []api.Change{over(list("h", "1"), 3)}) {
		t.Fatalf("%s, %s", brief(b), brief(c))
	}
}
