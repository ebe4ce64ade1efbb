package labels_test

import (
	"math/rand"
	"slices"
	"strconv"
	"strings"
	"testing"

	"klaxon/api"
	"klaxon/labels"
)

const (
	small   = "abcdefghijklmnopqrstuvwxyz"
	capital = "ABCDEFGHIJKLMNOPQRSTUVWXYZ"
	digits  = "0123456789"
)

// list is labels of names and values in turn, in the order that they come in.
func list(words ...string) []api.Label {
	var l []api.Label
	for i := 0; i < len(words); i += 2 {
		l = append(l, api.Label{Name: words[i], Value: words[i+1]})
	}
	return l
}

// many is so many labels by rising names, as a set has them.
func many(n int) []api.Label {
	var l []api.Label
	for i := range n {
		l = append(l, api.Label{Name: "n" + strconv.Itoa(1000+i), Value: "v" + strconv.Itoa(i)})
	}
	return l
}

// mustMake is the set of labels that Make must take.
func mustMake(t *testing.T, l ...api.Label) []api.Label {
	t.Helper()
	set, err := labels.Make(l...)
	if err != api.OK {
		t.Fatalf("Make(%q): error %d", l, err)
	}
	return set
}

// isSet asks P9.1 of a list, by nothing of the package.
func isSet(l []api.Label) bool {
	for i, x := range l {
		if !isSaidName(x.Name) || len(x.Value) < 1 || len(x.Value) > 128 {
			return false
		}
		if i > 0 && l[i-1].Name >= x.Name {
			return false
		}
	}
	return len(l) <= 16
}

// isSaidName is what P9.1 says of a name.
func isSaidName(s string) bool {
	return s != "" && len(s) <= 64 && !strings.Contains(digits, s[:1]) && strings.Trim(s, small+capital+digits+"_") == ""
}

// saidKey is what P9.5 says of a set's text.
func saidKey(l []api.Label) string {
	var said []string
	for _, x := range l {
		v := strings.ReplaceAll(strings.ReplaceAll(x.Value, `\`, `\\`), `"`, `\"`)
		said = append(said, x.Name+`="`+v+`"`)
	}
	return "{" + strings.Join(said, ",") + "}"
}

// saidJoin is what P9.6 says of two sets.
func saidJoin(a, b []api.Label) ([]api.Label, bool) {
	values := map[string]string{}
	for _, x := range slices.Concat(a, b) {
		if v, there := values[x.Name]; there && v != x.Value {
			return nil, false
		}
		values[x.Name] = x.Value
	}
	var l []api.Label
	for name, v := range values {
		l = append(l, api.Label{Name: name, Value: v})
	}
	slices.SortFunc(l, func(x, y api.Label) int { return strings.Compare(x.Name, y.Name) })
	if len(l) > 16 {
		return nil, false
	}
	return l, true
}

// isJoin asks that two sets come to just this.
func isJoin(t *testing.T, a, b, want []api.Label, ok bool) {
	t.Helper()
	got, there := labels.Join(a, b)
	if !slices.Equal(got, want) || there != ok {
		t.Fatalf("Join(%q, %q): %q, %v, want %q, %v", a, b, got, there, want, ok)
	}
}

func shuffled(r *rand.Rand, l []api.Label) []api.Label {
	l = slices.Clone(l)
	r.Shuffle(len(l), func(i, j int) { l[i], l[j] = l[j], l[i] })
	return l
}

// anySet is a set of few names and values, so that sets often share some.
func anySet(r *rand.Rand, most int) []api.Label {
	var l []api.Label
	for _, name := range names(24) {
		if len(l) < most && r.Intn(24) < most {
			l = append(l, api.Label{Name: name, Value: anyValue(r)})
		}
	}
	return l
}

// anyValue is mostly x.
func anyValue(r *rand.Rand) string {
	if r.Intn(4) > 0 {
		return "x"
	}
	return []string{`\`, `"`, `",b="x`, `\"`, "xx", "X", "\x00", "\xff", "ü", ","}[r.Intn(10)]
}

// names is so many names by rising order, some of them the beginning of others.
func names(n int) []string {
	l := []string{"A", "B1", "_", "_0", "__", "a", "a0", "aA", "a_", "aa", "aaa", "b", "ba"}
	for i := 0; len(l) < n; i++ {
		l = append(l, "c"+strconv.Itoa(100+i))
	}
	return l[:n]
}

// anyNames is some of the names that sets are made of, and some others.
func anyNames(r *rand.Rand) []string {
	var l []string
	for _, name := range append(names(24), "", "z", "A1", "c") {
		for r.Intn(3) == 0 {
			l = append(l, name)
		}
	}
	r.Shuffle(len(l), func(i, j int) { l[i], l[j] = l[j], l[i] })
	return l
}
