package labels_test

import (
	"math/rand"
	"slices"
	"strings"
	"testing"

	"klaxon/api"
	"klaxon/labels"
)

// matchers is so many that may be.
func matchers(n int) []api.Matcher {
	return slices.Repeat([]api.Matcher{{Name: "a", Op: "=", Value: "1"}}, n)
}

// wrongOps is what is no Op.
var wrongOps = []string{"", "~", "==", "=~", "!~", "!", "^", "=!", "=^", "^!", "!=^", "!^=", "^==", " =", "= ", "<", ">", "=\x00"}

// P9.7
func TestCheckTakes(t *testing.T) {
	for _, m := range []api.Matcher{
		{Name: "a", Op: "=", Value: "1"},
		{Name: "a", Op: "!=", Value: "1"},
		{Name: "a", Op: "^=", Value: "1"},
		{Name: "a", Op: "!^", Value: "1"},
		{Name: "a", Op: "="},
		{Name: "a", Op: "!="},
		{Name: "a", Op: "^="},
		{Name: "a", Op: "!^"},
		{Name: "_", Op: "=", Value: "\x00\xff\"\\"},
		{Name: "Z9", Op: "=", Value: strings.Repeat("v", api.MaxLabel)},
		{Name: strings.Repeat("a", api.MaxName), Op: "=", Value: strings.Repeat("ü", api.MaxLabel/2)},
	} {
		if err := labels.Check(m); err != api.OK {
			t.Errorf("Check(%q): error %d", m, err)
		}
	}
	for _, n := range []int{0, 1, 2, api.MaxLabels} {
		if err := labels.Check(matchers(n)...); err != api.OK {
			t.Errorf("%d matchers: error %d", n, err)
		}
	}
}

// P9.7
func TestCheckRefuses(t *testing.T) {
	wrong := []api.Matcher{
		{},
		{Op: "="},
		{Name: "", Op: "=", Value: "1"},
		{Name: "1", Op: "=", Value: "1"},
		{Name: "9a", Op: "=", Value: "1"},
		{Name: "a-b", Op: "=", Value: "1"},
		{Name: "a ", Op: "=", Value: "1"},
		{Name: "ä", Op: "=", Value: "1"},
		{Name: strings.Repeat("a", api.MaxName+1), Op: "=", Value: "1"},
		{Name: "a", Op: "=", Value: strings.Repeat("v", api.MaxLabel+1)},
		{Name: "a", Op: "!^", Value: strings.Repeat("v", 1<<20)},
		{Name: "a", Op: "^=", Value: strings.Repeat("ü", api.MaxLabel/2) + "v"},
	}
	for _, op := range wrongOps {
		wrong = append(wrong, api.Matcher{Name: "a", Op: op, Value: "1"})
	}
	for _, m := range wrong {
		for _, l := range [][]api.Matcher{{m}, append(matchers(api.MaxLabels-1), m), append([]api.Matcher{m}, matchers(1)...)} {
			if err := labels.Check(l...); err != api.ErrLabel {
				t.Errorf("Check(%q): error %d, want %d", l, err, api.ErrLabel)
			}
		}
		for _, l := range [][]api.Matcher{append(matchers(api.MaxLabels), m), append([]api.Matcher{m}, matchers(api.MaxLabels)...)} {
			if err := labels.Check(l...); err != api.ErrMany {
				t.Errorf("one more, with %q: error %d, want %d", m, err, api.ErrMany)
			}
		}
	}
	for _, n := range []int{api.MaxLabels + 1, 1000} {
		if err := labels.Check(matchers(n)...); err != api.ErrMany {
			t.Errorf("%d matchers: error %d, want %d", n, err, api.ErrMany)
		}
	}
}

// P9.7: each Op, of a name that the set has, and of one that it has not.
func TestMatch(t *testing.T) {
	set := list("a", "xyz", "b", "1")
	for _, c := range []struct {
		name, value                  string
		is, isNot, begins, beginsNot bool
	}{
		{"a", "xyz", true, false, true, false},
		{"a", "xy", false, true, true, false},
		{"a", "x", false, true, true, false},
		{"a", "", false, true, true, false},
		{"a", "xyzz", false, true, false, true},
		{"a", "yz", false, true, false, true},
		{"a", "XYZ", false, true, false, true},
		{"a", "1", false, true, false, true},
		{"b", "1", true, false, true, false},
		{"z", "", true, false, true, false},
		{"z", "x", false, true, false, true},
		{"A", "xyz", false, true, false, true},
		{"", "", true, false, true, false},
		{"xyz", "a", false, true, false, true},
	} {
		for op, want := range map[string]bool{"=": c.is, "!=": c.isNot, "^=": c.begins, "!^": c.beginsNot} {
			if got := labels.Match(set, api.Matcher{Name: c.name, Op: op, Value: c.value}); got != want {
				t.Errorf("%s %s %q: %v, want %v", c.name, op, c.value, got, want)
			}
		}
	}
	for op, want := range map[string]bool{"=": true, "!=": false, "^=": true, "!^": false} {
		if got := labels.Match(nil, api.Matcher{Name: "a", Op: op}); got != want {
			t.Errorf("no label, %s: %v, want %v", op, got, want)
		}
	}
}

// P9.7
func TestMatchOfAnotherOp(t *testing.T) {
	set := list("a", "1")
	for _, op := range wrongOps {
		for _, m := range []api.Matcher{{Name: "a", Op: op, Value: "1"}, {Name: "a", Op: op, Value: "2"}, {Name: "a", Op: op}, {Name: "z", Op: op}} {
			if labels.Match(set, m) {
				t.Errorf("%q matches", m)
			}
			if labels.Match(set, api.Matcher{Name: "a", Op: "=", Value: "1"}, m) {
				t.Errorf("%q matches behind another one", m)
			}
		}
	}
}

// P9.7: all of them must, and there may be none.
func TestMatchOfMany(t *testing.T) {
	set := list("a", "xyz", "b", "1")
	yes, no := api.Matcher{Name: "a", Op: "^=", Value: "x"}, api.Matcher{Name: "b", Op: "!=", Value: "1"}
	for _, c := range []struct {
		ms   []api.Matcher
		want bool
	}{
		{nil, true},
		{[]api.Matcher{yes}, true},
		{[]api.Matcher{no}, false},
		{[]api.Matcher{yes, yes}, true},
		{[]api.Matcher{yes, no}, false},
		{[]api.Matcher{no, yes}, false},
		{[]api.Matcher{yes, yes, no, yes}, false},
		{slices.Repeat([]api.Matcher{yes}, 100), true},
		{append(slices.Repeat([]api.Matcher{yes}, 100), no), false},
	} {
		if got := labels.Match(set, c.ms...); got != c.want {
			t.Errorf("Match(%q): %v, want %v", c.ms, got, c.want)
		}
	}
	if !labels.Match(nil) || labels.Match(nil, yes) {
		t.Error("Match of no label")
	}
}

// P9.7: != and !^ are what = and ^= are not.
func TestMatchTurnedRound(t *testing.T) {
	r := rand.New(rand.NewSource(8))
	for range 5000 {
		set := anySet(r, api.MaxLabels)
		m := api.Matcher{Name: names(24)[r.Intn(24)], Value: anyValue(r)[:r.Intn(2)]}
		v := labels.Get(set, m.Name)
		want := map[string]bool{
			"=":  v == m.Value,
			"!=": v != m.Value,
			"^=": len(v) >= len(m.Value) && v[:len(m.Value)] == m.Value,
			"!^": len(v) < len(m.Value) || v[:len(m.Value)] != m.Value,
		}
		for op, holds := range want {
			m.Op = op
			if got := labels.Match(set, m); got != holds {
				t.Fatalf("Match(%q, %q): %v", set, m, got)
			}
		}
	}
}
