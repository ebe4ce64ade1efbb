package board_test

import (
	"slices"
	"strings"
	"testing"

	"klaxon/api"
)

// P18.1: a board of none, of one, and of as many as there may be.
func TestBoardsByNumber(t *testing.T) {
	for _, n := range []int{0, 1, 2, 5, api.MaxInstances - 1, api.MaxInstances} {
		accepts(t, "so many", many(n))
	}
	for _, n := range []int{api.MaxInstances + 1, api.MaxInstances + 2, 200, 1000} {
		refuses(t, "too many", api.ErrMany, many(n))
	}
}

// P18.1: that there are too many comes ahead of all that is wrong with them.
func TestBoardsOfTooManyThatAreNoneOtherwise(t *testing.T) {
	spoils := []func(b []api.Entry){
		func(b []api.Entry) { slices.Reverse(b) },
		func(b []api.Entry) { b[1].Labels = b[0].Labels },
		func(b []api.Entry) { b[0].Labels = list("", "") },
		func(b []api.Entry) { b[len(b)-1].Labels = list("b", "1", "a", "1") },
		func(b []api.Entry) { b[0].Instance = api.Instance{} },
		func(b []api.Entry) { b[len(b)-1].Instance.Value = api.Value{} },
		func(b []api.Entry) { clear(b) },
	}
	for _, spoil := range spoils {
		more, most := many(api.MaxInstances+1), many(api.MaxInstances)
		spoil(more)
		spoil(most)
		refuses(t, "one too many, and none otherwise", api.ErrMany, more)
		refuses(t, "none, of MaxInstances", api.ErrArg, most)
	}
}

// P18.1: Labels are a set, in each entry.
func TestBoardsByLabels(t *testing.T) {
	sets := [][]api.Label{
		nil, {}, host("1"), list("a", "1", "b", "1"), list("A", "1", "_", "1", "a", "1"), wide(api.MaxLabels),
		list(strings.Repeat("a", api.MaxName), strings.Repeat("1", api.MaxLabel)), list("a", "\x00"), list("a", "\xff\"\\"),
	}
	for _, l := range sets {
		accepts(t, "a set", []api.Entry{entry(l, seenAt(api.StateNormal, 9))})
	}
	for _, l := range noSets() {
		refuses(t, "no set", api.ErrArg, []api.Entry{entry(l, seenAt(api.StateNormal, 9))})
		for at := range 3 {
			b := many(3)
			b[at].Labels = l
			refuses(t, "no set among others", api.ErrArg, b)
		}
	}
}

// rising is sets, each above the one ahead of it.
func rising() [][]api.Label {
	return [][]api.Label{
		nil, list("A", "9"), list("Z", "1"), list("_", "5"), list("a", "\x00"), list("a", "1"), list("a", "1", "b", "1"), list("a", "1", "b", "2"),
		list("a", "1", "b", "2", "c", "0"), list("a", "1", "c", "0"), list("a", "10"), list("a", "2"), list("a", "\xff"), list("ab", "0"), list("b", "0"),
	}
}

// P18.1: the Labels of entries rise, and no two have the same.
func TestBoardsByTheOrderOfLabels(t *testing.T) {
	var all []api.Entry
	for i, x := range rising() {
		all = append(all, entry(x, seenAt(api.StateNormal, 9)))
		for _, y := range rising()[:i] {
			accepts(t, "two that rise", []api.Entry{entry(y, seenAt(api.StateError, 9)), entry(x, seenAt(api.StateNormal, 9))})
			refuses(t, "two that fall", api.ErrArg, []api.Entry{entry(x, seenAt(api.StateNormal, 9)), entry(y, seenAt(api.StateError, 9))})
		}
		refuses(t, "the same twice", api.ErrArg, []api.Entry{entry(x, seenAt(api.StateNormal, 9)), entry(slices.Clone(x), seenAt(api.StateError, 8))})
	}
	accepts(t, "all that rise", all)
	for at := range len(all) - 1 {
		b := slices.Clone(all)
		b[at], b[at+1] = b[at+1], b[at]
		refuses(t, "two that fall among others", api.ErrArg, b)
		refuses(t, "one twice among others", api.ErrArg, slices.Insert(slices.Clone(all), at, all[at]))
		refuses(t, "one again at the end", api.ErrArg, append(slices.Clone(all), all[at]))
	}
}

// P18.1: an Instance that may be, in each entry.
func TestBoardsByInstance(t *testing.T) {
	for _, kind := range allStates() {
		for _, at := range []int64{0, 1, 127, 128, 1 << 32, maxTime} {
			for _, v := range someValues() {
				accepts(t, "one", []api.Entry{entry(nil, instance(kind, at, maxTime-at, v))})
			}
		}
	}
	quiet := seenAt(api.StateAlerting, 90)
	quiet.Quiet = 80
	accepts(t, "a quiet one", []api.Entry{entry(nil, quiet)})
	quiet.From = never
	accepts(t, "one that alerts from never on", []api.Entry{entry(nil, quiet)})
	for _, x := range unmaking() {
		for _, n := range []int{1, 2, 5, api.MaxInstances} {
			for _, at := range []int{0, n / 2, n - 1} {
				b := many(n)
				b[at].Instance = x
				refuses(t, "one that may not be", api.ErrArg, b)
			}
		}
	}
}
