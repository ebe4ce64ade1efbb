package labels_test

import (
	"math/rand"
	"slices"
	"testing"

	"klaxon/api"
	"klaxon/labels"
)

// P9.6
func TestJoin(t *testing.T) {
	full := many(api.MaxLabels)
	for _, c := range []struct {
		a, b, want []api.Label
		ok         bool
	}{
		{nil, nil, nil, true},
		{nil, []api.Label{}, nil, true},
		{nil, list("a", "1"), list("a", "1"), true},
		{list("a", "1"), list("a", "1"), list("a", "1"), true},
		{list("a", "1"), list("a", "1", "b", "2"), list("a", "1", "b", "2"), true},
		{list("a", "1", "c", "3"), list("b", "2"), list("a", "1", "b", "2", "c", "3"), true},
		{list("a", "1", "b", "2"), list("b", "2", "c", "3"), list("a", "1", "b", "2", "c", "3"), true},
		{list("a", "1", "c", "3", "e", "5"), list("b", "2", "d", "4", "e", "5", "f", "6"), list("a", "1", "b", "2", "c", "3", "d", "4", "e", "5", "f", "6"), true},
		{list("a", "1"), list("A", "2"), list("A", "2", "a", "1"), true},
		{list("a", "1"), list("a", "2"), nil, false},
		{list("a", "1"), list("a", "11"), nil, false},
		{list("a", "x"), list("a", "X"), nil, false},
		{list("a", "1", "b", "2"), list("b", "3", "c", "3"), nil, false},
		{list("a", "1", "z", "2"), list("b", "3", "z", "3"), nil, false},
		{full[:8], full[8:], full, true},
		{full[:10], full[6:], full, true},
		{full, full, full, true},
		{full, nil, full, true},
		{full, full[15:], full, true},
		{full, list("z", "1"), nil, false},
		{full, list("A", "1"), nil, false},
		{full[:15], list("y", "1", "z", "1"), nil, false},
		{full, append(full[2:3:3], list("z", "1")...), nil, false},
		{full, list(full[9].Name, "other"), nil, false},
		{full, list(full[9].Name, "other", "z", "1"), nil, false},
	} {
		isJoin(t, c.a, c.b, c.want, c.ok)
		isJoin(t, c.b, c.a, c.want, c.ok)
	}
}

// P9.6, P9.9
func TestJoinAgainstTheDocument(t *testing.T) {
	r := rand.New(rand.NewSource(6))
	taken, left := 0, 0
	for range 20000 {
		most := 1 + r.Intn(api.MaxLabels)
		a, b := anySet(r, most), anySet(r, most)
		if r.Intn(2) == 0 {
			b = agreeing(a, b)
		}
		want, ok := saidJoin(a, b)
		isJoin(t, a, b, want, ok)
		isJoin(t, b, a, want, ok)
		if ok && len(a) > 0 && len(b) > 0 {
			taken++
		} else if !ok {
			left++
		}
	}
	if taken < 1000 || left < 1000 {
		t.Errorf("%d were joined, %d were not", taken, left)
	}
}

// agreeing is b with the values that a has.
func agreeing(a, b []api.Label) []api.Label {
	b = slices.Clone(b)
	for i := range b {
		if v := labels.Get(a, b[i].Name); v != "" {
			b[i].Value = v
		}
	}
	return b
}

// P9.9: with a part of itself a set is itself; Only and Without part it.
func TestJoinedParts(t *testing.T) {
	r := rand.New(rand.NewSource(7))
	for range 5000 {
		set, some := anySet(r, 1+r.Intn(api.MaxLabels)), anyNames(r)
		only, without := labels.Only(set, some...), labels.Without(set, some...)
		if len(only)+len(without) != len(set) || !isSet(only) || !isSet(without) {
			t.Fatalf("%q by %q: %q and %q", set, some, only, without)
		}
		isJoin(t, only, without, set, true)
		isJoin(t, without, only, set, true)
		isJoin(t, set, only, set, true)
		isJoin(t, without, set, set, true)
		isJoin(t, set, set, set, true)
		isJoin(t, set, nil, set, true)
	}
}
