package labels_test

import (
	"math/rand"
	"slices"
	"testing"

	"klaxon/api"
	"klaxon/labels"
)

// P9.4
func TestWith(t *testing.T) {
	full := many(api.MaxLabels)
	changed := many(api.MaxLabels)
	changed[3].Value = "other"
	for _, c := range []struct{ l, more, want []api.Label }{
		{nil, nil, nil},
		{list("a", "1"), nil, list("a", "1")},
		{nil, list("b", "1", "a", "2"), list("a", "2", "b", "1")},
		{list("a", "1"), list("b", "2"), list("a", "1", "b", "2")},
		{list("b", "1"), list("a", "2"), list("a", "2", "b", "1")},
		{list("a", "1", "b", "2"), list("b", "9"), list("a", "1", "b", "9")},
		{list("a", "1", "b", "2"), list("b", "2"), list("a", "1", "b", "2")},
		{list("a", "1", "c", "3"), list("c", "x", "b", "y", "a", "z"), list("a", "z", "b", "y", "c", "x")},
		{list("a", "1"), list("A", "2"), list("A", "2", "a", "1")},
		{full, list(full[3].Name, "other"), changed},
		{full[:15], full[15:], full},
		{full, full, full},
	} {
		if got, err := labels.With(c.l, c.more...); err != api.OK || !slices.Equal(got, c.want) {
			t.Errorf("With(%q, %q): %q, error %d, want %q", c.l, c.more, got, err, c.want)
		}
	}
}

// P9.4: Make's errors, in Make's order.
func TestWithRefuses(t *testing.T) {
	for _, c := range refused() {
		for _, l := range [][]api.Label{nil, list("a", "9", "q", "9"), many(api.MaxLabels)} {
			if set, err := labels.With(l, c.l...); len(set) > 0 || err != c.want {
				t.Errorf("With(%q, and %s): %q, error %d, want %d", l, c.name, set, err, c.want)
			}
		}
	}
	for _, c := range []struct {
		more []api.Label
		want api.Errno
	}{
		{list("z", "1"), api.ErrMany},
		{list("z", "1", "n1003", "1"), api.ErrMany},
		{list("z", "1", "z", "1"), api.ErrThere},
		{list("n1003", "1", "n1003", "2"), api.ErrThere},
		{list("z", "1", "z", ""), api.ErrLabel},
		{list("n1003", ""), api.ErrLabel},
	} {
		if set, err := labels.With(many(api.MaxLabels), c.more...); len(set) > 0 || err != c.want {
			t.Errorf("With(MaxLabels labels, %q): %q, error %d, want %d", c.more, set, err, c.want)
		}
	}
}

// P9.4
func TestOnlyAndWithout(t *testing.T) {
	set := list("A", "0", "a", "1", "aa", "2", "b", "3")
	for _, c := range []struct {
		names         []string
		only, without []api.Label
	}{
		{nil, nil, set},
		{[]string{}, nil, set},
		{[]string{"a"}, list("a", "1"), list("A", "0", "aa", "2", "b", "3")},
		{[]string{"b", "A"}, list("A", "0", "b", "3"), list("a", "1", "aa", "2")},
		{[]string{"b", "b", "b"}, list("b", "3"), list("A", "0", "a", "1", "aa", "2")},
		{[]string{"b", "aa", "a", "A"}, set, nil},
		{[]string{"B", "", "aaa", "1", "z"}, nil, set},
		{[]string{"z", "aa"}, list("aa", "2"), list("A", "0", "a", "1", "b", "3")},
	} {
		if got := labels.Only(set, c.names...); !slices.Equal(got, c.only) {
			t.Errorf("Only(%q): %q, want %q", c.names, got, c.only)
		}
		if got := labels.Without(set, c.names...); !slices.Equal(got, c.without) {
			t.Errorf("Without(%q): %q, want %q", c.names, got, c.without)
		}
	}
	if only, without := labels.Only(nil, "a"), labels.Without(nil, "a"); len(only)+len(without) > 0 {
		t.Errorf("of no label: %q, %q", only, without)
	}
}

// P9.4: each label lies in the one or in the other.
func TestPartsAgainstTheDocument(t *testing.T) {
	r := rand.New(rand.NewSource(3))
	for range 2000 {
		set, some := anySet(r, api.MaxLabels), anyNames(r)
		var only, without []api.Label
		for _, x := range set {
			if slices.Index(some, x.Name) >= 0 {
				only = append(only, x)
			} else {
				without = append(without, x)
			}
		}
		if got := labels.Only(set, some...); !slices.Equal(got, only) {
			t.Fatalf("Only(%q, %q): %q", set, some, got)
		}
		if got := labels.Without(set, some...); !slices.Equal(got, without) {
			t.Fatalf("Without(%q, %q): %q", set, some, got)
		}
	}
}

// calls is each call that answers a list, of lists that may have spare room.
func calls() map[string]func(l, other []api.Label, names []string) []api.Label {
	type lists = []api.Label
	return map[string]func(l, other lists, names []string) lists{
		"Make":    func(l, other lists, names []string) lists { set, _ := labels.Make(l...); return set },
		"With":    func(l, other lists, names []string) lists { set, _ := labels.With(l, other...); return set },
		"Without": func(l, other lists, names []string) lists { return labels.Without(l, names...) },
		"Only":    func(l, other lists, names []string) lists { return labels.Only(l, names...) },
		"Join":    func(l, other lists, names []string) lists { set, _ := labels.Join(l, other); return set },
	}
}

// spoil writes over a list, and over its spare room.
func spoil(l []api.Label) {
	l = l[:cap(l)]
	for i := range l {
		l[i] = api.Label{Name: "spoilt", Value: "spoilt"}
	}
}

// Rule 3: lists that are handed in stay, their spare room too, and no answer
// shares anything with them, or with another answer.
func TestListsStay(t *testing.T) {
	r := rand.New(rand.NewSource(4))
	for range 300 {
		room := shuffled(r, anySet(r, api.MaxLabels))
		others := shuffled(r, anySet(r, api.MaxLabels))
		words := anyNames(r)
		l, other, some := room[:r.Intn(len(room)+1)], others[:r.Intn(len(others)+1)], words[:r.Intn(len(words)+1)]
		keptRoom, keptOthers, keptWords := slices.Clone(room), slices.Clone(others), slices.Clone(words)
		for name, call := range calls() {
			for _, more := range [][]api.Label{other, nil} {
				got := call(l, more, some)
				kept := slices.Clone(got)
				spoil(call(l, more, some))
				if !slices.Equal(got, kept) {
					t.Fatalf("%s: an answer shares memory with another one", name)
				}
				if !slices.Equal(room, keptRoom) || !slices.Equal(others, keptOthers) || !slices.Equal(words, keptWords) {
					t.Fatalf("%s changed what it was given", name)
				}
			}
		}
	}
}

// Rule 3: calls that answer no list leave theirs as they were, too.
func TestAskedListsStay(t *testing.T) {
	l, other := list("b", "2", "a", "1"), list("c", "1", "a", "2")
	ms := []api.Matcher{{Name: "b", Op: "=", Value: "2"}, {Name: "a", Op: "^=", Value: "1"}}
	labels.Get(l, "a")
	labels.Key(l)
	labels.Compare(l, other)
	labels.Check(ms...)
	labels.Match(l, ms...)
	if !slices.Equal(l, list("b", "2", "a", "1")) || !slices.Equal(other, list("c", "1", "a", "2")) {
		t.Errorf("labels became %q, %q", l, other)
	}
	if !slices.Equal(ms, []api.Matcher{{Name: "b", Op: "=", Value: "2"}, {Name: "a", Op: "^=", Value: "1"}}) {
		t.Errorf("matchers became %q", ms)
	}
}

// P9.1: lists that are no set are answered, too.
func TestListsThatAreNoSet(t *testing.T) {
	odd := [][]api.Label{many(500), list("", ""), list("b", "1", "a", "2"), list("a", "1", "a", "2"), list("\x00", "\"", "1", "")}
	for _, a := range odd {
		labels.Get(a, "")
		labels.Key(a)
		labels.Without(a, "a", "")
		labels.Only(a, "a", "")
		labels.Match(a, api.Matcher{Op: "="})
		for _, b := range odd {
			if set, err := labels.With(a, b...); err != api.OK && len(set) > 0 {
				t.Errorf("With(%q, %q): %q, error %d", a, b, set, err)
			}
			if got := labels.Compare(a, b); got < -1 || got > 1 {
				t.Errorf("Compare(%q, %q): %d", a, b, got)
			}
			if set, ok := labels.Join(a, b); !ok && len(set) > 0 {
				t.Errorf("Join(%q, %q): %q", a, b, set)
			}
		}
	}
}
