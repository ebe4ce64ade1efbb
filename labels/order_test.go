package labels_test

import (
	"math/rand"
	"slices"
	"strings"
	"testing"

	"klaxon/api"
	"klaxon/labels"
)

// P9.5
func TestKey(t *testing.T) {
	for _, c := range []struct {
		l    []api.Label
		want string
	}{
		{nil, `{}`},
		{[]api.Label{}, `{}`},
		{list("a", "1"), `{a="1"}`},
		{list("a", `x"`, "b", "1"), `{a="x\"",b="1"}`},
		{list("a", `\`), `{a="\\"}`},
		{list("a", `"`), `{a="\""}`},
		{list("a", `\"`), `{a="\\\""}`},
		{list("a", `"\`), `{a="\"\\"}`},
		{list("a", `\\n`), `{a="\\\\n"}`},
		{list("a", `1",b="2`), `{a="1\",b=\"2"}`},
		{list("a", "1", "b", "2"), `{a="1",b="2"}`},
		{list("a", ",", "b", "{}="), `{a=",",b="{}="}`},
		{list("a", "ü\n\t\x00\xff\x80"), "{a=\"ü\n\t\x00\xff\x80\"}"},
		{list("_A9", " "), `{_A9=" "}`},
		{list("A", "1", "_", "2", "a", "3"), `{A="1",_="2",a="3"}`},
	} {
		if got := labels.Key(c.l); got != c.want {
			t.Errorf("Key(%q): %s, want %s", c.l, got, c.want)
		}
	}
	longest := list(strings.Repeat("a", api.MaxName), strings.Repeat(`"`, api.MaxLabel))
	if got, want := labels.Key(longest), "{"+strings.Repeat("a", 64)+"=\""+strings.Repeat(`\"`, 128)+"\"}"; got != want {
		t.Errorf("Key of the longest label: %s", got)
	}
	if got := labels.Key(many(api.MaxLabels)); got != saidKey(many(api.MaxLabels)) {
		t.Errorf("Key of MaxLabels labels: %s", got)
	}
}

// P9.5
func TestCompare(t *testing.T) {
	for _, c := range []struct {
		name string
		a, b []api.Label
		want int
	}{
		{"none and none", nil, []api.Label{}, 0},
		{"none and one", nil, list("A", "\x00"), -1},
		{"the same", list("a", "1", "b", "2"), list("a", "1", "b", "2"), 0},
		{"a beginning", list("a", "1"), list("a", "1", "b", "2"), -1},
		{"a beginning, all but one", many(15), many(16), -1},
		{"values", list("a", "1"), list("a", "2"), -1},
		{"names", list("a", "1"), list("b", "1"), -1},
		{"names ahead of values", list("a", "2"), list("b", "1"), -1},
		{"a longer one, whose first name is less", list("a", "1", "b", "1", "c", "1"), list("b", "1"), -1},
		{"a longer one, whose first value is less", list("a", "1", "b", "1"), list("a", "2"), -1},
		{"the first one that is not the same counts", list("a", "1", "b", "1", "c", "9"), list("a", "1", "b", "2", "c", "0"), -1},
		{"a value ahead of the next name", list("a", "1", "z", "1"), list("a", "2", "b", "1"), -1},
		{"a name at the second place", list("a", "1", "b", "9"), list("a", "1", "c", "0"), -1},
		{"capitals", list("Z", "1"), list("a", "1"), -1},
		{"capitals and _", list("Z", "1"), list("_", "1"), -1},
		{"_ and small ones", list("_", "1"), list("a", "1"), -1},
		{"a name that begins another", list("a", "9"), list("aa", "1"), -1},
		{"a value that begins another", list("a", "x"), list("a", "xx"), -1},
		{"no numbers", list("a", "10"), list("a", "9"), -1},
		{"a byte above 7f", list("a", "\x7f"), list("a", "\x80"), -1},
		{"bytes, not runes", list("a", "\uffff"), list("a", "\U00010000"), -1},
	} {
		if got := labels.Compare(c.a, c.b); got != c.want {
			t.Errorf("%s: %d, want %d", c.name, got, c.want)
		}
		if got := labels.Compare(c.b, c.a); got != -c.want {
			t.Errorf("%s, the other way round: %d, want %d", c.name, got, -c.want)
		}
	}
}

// saidCompare is what P9.5 says, of names and values as one list of texts: a
// set that ends has the less one there.
func saidCompare(a, b []api.Label) int {
	return slices.Compare(words(a), words(b))
}

func words(l []api.Label) []string {
	var all []string
	for _, x := range l {
		all = append(all, x.Name, x.Value)
	}
	return all
}

// anySets is sets of which many begin with others of them.
func anySets(r *rand.Rand, n int) [][]api.Label {
	l := [][]api.Label{nil}
	for len(l) < n {
		elder := l[r.Intn(len(l))]
		next := slices.Clone(elder[:r.Intn(len(elder)+1)])
		for _, name := range names(24) {
			if r.Intn(6) == 0 && len(next) < api.MaxLabels && (len(next) == 0 || next[len(next)-1].Name < name) {
				next = append(next, api.Label{Name: name, Value: anyValue(r)})
			}
		}
		l = append(l, next)
	}
	return l
}

// P9.5, P9.8: sets have the same Key just if they are the same, and Compare
// says so, too.
func TestSetsInOrder(t *testing.T) {
	sets := anySets(rand.New(rand.NewSource(5)), 700)
	keys := make([]string, len(sets))
	for i, l := range sets {
		if !isSet(l) {
			t.Fatalf("%q is no set", l)
		}
		keys[i] = labels.Key(l)
		if keys[i] != saidKey(l) {
			t.Fatalf("Key(%q): %s, want %s", l, keys[i], saidKey(l))
		}
	}
	begins := 0
	for i, a := range sets {
		for j, b := range sets {
			got := labels.Compare(a, b)
			if got != saidCompare(a, b) || got != -labels.Compare(b, a) {
				t.Fatalf("Compare(%q, %q): %d", a, b, got)
			}
			same := slices.Equal(a, b)
			if (keys[i] == keys[j]) != same || (got == 0) != same {
				t.Fatalf("%q and %q: %s and %s, Compare %d", a, b, keys[i], keys[j], got)
			}
			if len(a) > 0 && len(a) < len(b) && slices.Equal(a, b[:len(a)]) {
				begins++
			}
		}
	}
	if begins < 100 {
		t.Errorf("only %d sets are the beginning of another", begins)
	}
}

// P9.8: values that look like what stands between labels.
func TestKeysThatLookAlike(t *testing.T) {
	sets := [][]api.Label{
		nil,
		list("a", `1`),
		list("a", `1`, "b", `2`),
		list("a", `1",b="2`),
		list("a", `1\",b=\"2`),
		list("a", `1\`, "b", `2`),
		list("a", `1\\`, "b", `2`),
		list("a", `1\",b=`, "b", `2`),
		list("a", `1"`),
		list("a", `1\`),
		list("a", `1\"`),
		list("a", `1\\`),
		list("a", `1"}`),
		list("a", `}`),
	}
	for i, a := range sets {
		for j, b := range sets {
			if (labels.Key(a) == labels.Key(b)) != (i == j) {
				t.Errorf("%q and %q: %s and %s", a, b, labels.Key(a), labels.Key(b))
			}
		}
	}
}
