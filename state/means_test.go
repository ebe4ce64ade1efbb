package state_test

import (
	"slices"
	"testing"

	"klaxon/api"
	"klaxon/state"
)

func means(t *testing.T, h api.Holds, result, want int) {
	t.Helper()
	if got := state.Means(h, result); got != want {
		t.Errorf("Means(%+v, %d): %d, want %d", h, result, got, want)
	}
}

// byPolicy has what each policy makes of a result of that kind.
func byPolicy(result int) map[int]int {
	return map[int]int{api.PolicyState: result, api.PolicyAlert: api.ResAlert, api.PolicyNormal: api.ResNormal, api.PolicyKeep: 0}
}

func anyPolicies() []int { return slices.Concat(allPolicies(), noPolicies()) }

// P17.2: of each result with each two policies, those that are none among them:
// only the result's own policy has a part.
func TestMeans(t *testing.T) {
	for _, noData := range anyPolicies() {
		for _, onError := range anyPolicies() {
			h := byPolicies(noData, onError)
			means(t, h, api.ResNormal, api.ResNormal)
			means(t, h, api.ResAlert, api.ResAlert)
			means(t, h, api.ResNoData, byPolicy(api.ResNoData)[noData])
			means(t, h, api.ResError, byPolicy(api.ResError)[onError])
			for _, result := range noResults() {
				means(t, h, result, 0)
			}
		}
	}
}

// P17.2: said once more, in numbers.
func TestMeansInNumbers(t *testing.T) {
	for _, c := range []struct{ noData, onError, result, want int }{
		{1, 4, 3, 3}, {2, 4, 3, 2}, {3, 4, 3, 1}, {4, 1, 3, 0}, {0, 1, 3, 0}, {5, 1, 3, 0}, {-1, 1, 3, 0},
		{4, 1, 4, 4}, {4, 2, 4, 2}, {4, 3, 4, 1}, {1, 4, 4, 0}, {1, 0, 4, 0}, {1, 5, 4, 0}, {1, -1, 4, 0},
		{4, 4, 1, 1}, {0, 0, 1, 1}, {2, 2, 1, 1}, {4, 4, 2, 2}, {0, 0, 2, 2}, {3, 3, 2, 2},
		{1, 1, 0, 0}, {1, 1, 5, 0}, {2, 2, -1, 0}, {3, 3, 9, 0},
	} {
		means(t, byPolicies(c.noData, c.onError), c.result, c.want)
	}
}

// P17.2: For and Keep have no part.
func TestMeansWhateverTheHolds(t *testing.T) {
	for _, n := range []int64{0, 1, api.MaxHold} {
		h := api.Holds{For: n, Keep: api.MaxHold - n, NoData: api.PolicyAlert, OnError: api.PolicyState}
		means(t, h, api.ResNoData, api.ResAlert)
		means(t, h, api.ResError, api.ResError)
	}
	means(t, api.Holds{}, api.ResNoData, 0)
	means(t, api.Holds{}, api.ResError, 0)
	means(t, api.Holds{}, api.ResNormal, api.ResNormal)
	means(t, api.Holds{}, api.ResAlert, api.ResAlert)
}
