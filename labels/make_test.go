package labels_test

import (
	"math/rand"
	"slices"
	"strings"
	"testing"

	"klaxon/api"
	"klaxon/labels"
)

// isMade asks that a label alone is taken, or is not.
func isMade(t *testing.T, x api.Label, may bool) {
	t.Helper()
	set, err := labels.Make(x)
	if may && (err != api.OK || !slices.Equal(set, []api.Label{x})) {
		t.Errorf("Make(%q): %q, error %d", x, set, err)
	}
	if !may && (err != api.ErrLabel || len(set) > 0) {
		t.Errorf("Make(%q): %q, error %d, want %d", x, set, err, api.ErrLabel)
	}
}

// P9.1
func TestNames(t *testing.T) {
	for _, name := range []string{
		"a", "z", "A", "Z", "_", "__", "a0", "Z9", "_1", "aB_9", "a1b2", "x_", "_0_",
		strings.Repeat("a", api.MaxName), strings.Repeat("_", api.MaxName), "Z" + strings.Repeat("9", api.MaxName-1),
	} {
		isMade(t, api.Label{Name: name, Value: "v"}, true)
	}
	for _, name := range []string{
		"", "0", "9", "0a", "9_", "1abc", " ", "a ", " a", "a-b", "a.b", "a:b", "-a", "a=", "a\"", "a\\", "a,", "{a}",
		"a\x00", "\x00", "a\n", "\xff", "a\xff", "ä", "aä", "aé9", "١", "a١", "ª",
		strings.Repeat("a", api.MaxName+1), strings.Repeat("_", 100000), strings.Repeat("a", api.MaxName-1) + "-",
	} {
		isMade(t, api.Label{Name: name, Value: "v"}, false)
	}
}

// P9.1: each byte, at a name's beginning, in it, and at its end.
func TestBytesOfNames(t *testing.T) {
	for c := range 256 {
		sign := string([]byte{byte(c)})
		first := strings.Contains(small+capital+"_", sign)
		isMade(t, api.Label{Name: sign, Value: "v"}, first)
		isMade(t, api.Label{Name: sign + "a", Value: "v"}, first)
		isMade(t, api.Label{Name: "a" + sign, Value: "v"}, first || strings.Contains(digits, sign))
		isMade(t, api.Label{Name: "_" + sign + "b", Value: "v"}, first || strings.Contains(digits, sign))
	}
}

// P9.1: of a value only how many bytes it has counts.
func TestValues(t *testing.T) {
	for _, v := range []string{
		" ", "\x00", "\xff\xfe", "\"", "\\", "ü", "\n",
		strings.Repeat("v", api.MaxLabel), strings.Repeat("ü", api.MaxLabel/2), strings.Repeat("\x00", api.MaxLabel),
	} {
		isMade(t, api.Label{Name: "a", Value: v}, true)
	}
	for c := range 256 {
		isMade(t, api.Label{Name: "a", Value: string([]byte{byte(c)})}, true)
	}
	for _, v := range []string{
		"", strings.Repeat("v", api.MaxLabel+1), strings.Repeat("ü", api.MaxLabel/2) + "v", strings.Repeat("v", 1<<20),
	} {
		isMade(t, api.Label{Name: "a", Value: v}, false)
	}
}

// P9.2
func TestMake(t *testing.T) {
	for _, c := range []struct{ in, want []api.Label }{
		{nil, nil},
		{[]api.Label{}, nil},
		{list("a", "1"), list("a", "1")},
		{list("b", "1", "a", "2"), list("a", "2", "b", "1")},
		{list("a", "1", "b", "1"), list("a", "1", "b", "1")},
		{list("a", "2", "_", "1", "B", "3", "b", "0"), list("B", "3", "_", "1", "a", "2", "b", "0")},
		{list("aa", "1", "a", "2", "a0", "3", "aA", "4"), list("a", "2", "a0", "3", "aA", "4", "aa", "1")},
		{list("x10", "1", "x9", "2", "x1", "3"), list("x1", "3", "x10", "1", "x9", "2")},
		{many(api.MaxLabels), many(api.MaxLabels)},
	} {
		if got, err := labels.Make(c.in...); err != api.OK || !slices.Equal(got, c.want) {
			t.Errorf("Make(%q): %q, error %d, want %q", c.in, got, err, c.want)
		}
	}
	backward := many(api.MaxLabels)
	slices.Reverse(backward)
	if got, err := labels.Make(backward...); err != api.OK || !slices.Equal(got, many(api.MaxLabels)) {
		t.Errorf("MaxLabels labels, from the last one on: %q, error %d", got, err)
	}
}

// refused has lists of which there is no set, each with the error that comes
// first.
func refused() []struct {
	name string
	l    []api.Label
	want api.Errno
} {
	full := many(api.MaxLabels)
	long := strings.Repeat("v", api.MaxLabel+1)
	return []struct {
		name string
		l    []api.Label
		want api.Errno
	}{
		{"no name", list("", "v"), api.ErrLabel},
		{"nothing at all", list("", ""), api.ErrLabel},
		{"a digit ahead", list("1a", "v"), api.ErrLabel},
		{"another sign", list("a-b", "v"), api.ErrLabel},
		{"no value", list("a", ""), api.ErrLabel},
		{"a value that is too long", list("a", long), api.ErrLabel},
		{"a name that is too long", list(strings.Repeat("a", api.MaxName+1), "v"), api.ErrLabel},
		{"the last of MaxLabels", append(many(api.MaxLabels-1), list("z", "")...), api.ErrLabel},
		{"twice the same", list("a", "1", "a", "1"), api.ErrThere},
		{"a name with unlike values", list("a", "1", "a", "2"), api.ErrThere},
		{"unlike values, the greater one ahead", list("a", "2", "a", "1"), api.ErrThere},
		{"one name, far apart", list("a", "1", "b", "1", "c", "1", "a", "2"), api.ErrThere},
		{"the last two of three", list("a", "1", "b", "1", "b", "2"), api.ErrThere},
		{"one more", many(api.MaxLabels + 1), api.ErrMany},
		{"many more", many(5000), api.ErrMany},
		{"the first twice, then none that may be", append(list("a", "1", "a", "1"), list("b", "")...), api.ErrLabel},
		{"one that may not be, twice", list("1", "1", "1", "1"), api.ErrLabel},
		{"a name with a value and without one", list("a", "1", "a", ""), api.ErrLabel},
		{"one more, the last without a value", append(slices.Clone(full), list("z", "")...), api.ErrLabel},
		{"one more, the first without a name", append(list("", "v"), full...), api.ErrLabel},
		{"one more, which is there", append(slices.Clone(full), full[7]), api.ErrThere},
		{"one more, whose name is there", append(list(full[15].Name, "other"), full...), api.ErrThere},
		{"all of them twice", append(slices.Clone(full), full...), api.ErrThere},
		{"all of them twice, and one that may not be", slices.Concat(full, full, list("a", long)), api.ErrLabel},
	}
}

// P9.2
func TestMakeRefuses(t *testing.T) {
	r := rand.New(rand.NewSource(1))
	for _, c := range refused() {
		for range 5 {
			if set, err := labels.Make(c.l...); len(set) > 0 || err != c.want {
				t.Errorf("%s: %q, error %d, want %d", c.name, set, err, c.want)
			}
			c.l = shuffled(r, c.l)
		}
	}
}

// P9.8
func TestMakeOfAnyOrder(t *testing.T) {
	r := rand.New(rand.NewSource(2))
	for range 2000 {
		set := anySet(r, 1+r.Intn(api.MaxLabels))
		if got := mustMake(t, shuffled(r, set)...); !slices.Equal(got, set) || !isSet(got) {
			t.Fatalf("Make: %q, want %q", got, set)
		}
	}
}

// P9.3
func TestGet(t *testing.T) {
	set := list("A", "big", "_", "low", "a", "x\"\\", "ab", "2", "b", "a")
	for _, c := range []struct{ name, want string }{
		{"A", "big"}, {"_", "low"}, {"a", "x\"\\"}, {"ab", "2"}, {"b", "a"},
		{"B", ""}, {"", ""}, {"abc", ""}, {"aB", ""}, {"x\"\\", ""}, {"2", ""}, {"b ", ""}, {"\x00", ""},
	} {
		if got := labels.Get(set, c.name); got != c.want {
			t.Errorf("Get(%q): %q, want %q", c.name, got, c.want)
		}
	}
	if got := labels.Get(nil, "a"); got != "" {
		t.Errorf("Get of no label: %q", got)
	}
	for _, x := range many(api.MaxLabels) {
		if got := labels.Get(many(api.MaxLabels), x.Name); got != x.Value {
			t.Errorf("Get(%q): %q, want %q", x.Name, got, x.Value)
		}
	}
}
