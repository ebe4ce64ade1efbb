package keys_test

import (
	"cmp"
	"math/rand"
	"slices"
	"strings"
	"testing"

	"klaxon/api"
	"klaxon/keys"
)

// P7.4
func TestCompare(t *testing.T) {
	one, a := keys.Int(1), keys.Text("a")
	for _, c := range []struct {
		name string
		a, b []api.Part
		want int
	}{
		{"nil and nil", nil, nil, 0},
		{"nil and empty", nil, []api.Part{}, 0},
		{"nothing and a part", nil, []api.Part{keys.Int(-5)}, -1},
		{"nothing and the empty text", nil, []api.Part{keys.Text("")}, -1},
		{"the same", []api.Part{one, a}, []api.Part{one, a}, 0},
		{"a beginning", []api.Part{one, a}, []api.Part{one, a, keys.Int(-1 << 63)}, -1},
		{"longer, but less", []api.Part{keys.Int(0), a, a}, []api.Part{one}, -1},
		{"a number and a text", []api.Part{keys.Int(1<<63 - 1)}, []api.Part{keys.Text("")}, -1},
		{"a number and a text, behind others", []api.Part{a, one}, []api.Part{a, a}, -1},
		{"numbers", []api.Part{keys.Int(-1)}, []api.Part{keys.Int(0)}, -1},
		{"numbers far apart", []api.Part{keys.Int(-1 << 63)}, []api.Part{keys.Int(1<<63 - 1)}, -1},
		{"numbers below 0", []api.Part{keys.Int(-257)}, []api.Part{keys.Int(-256)}, -1},
		{"texts", []api.Part{keys.Text("B")}, []api.Part{keys.Text("a")}, -1},
		{"a text that begins another", []api.Part{keys.Text("a"), a}, []api.Part{keys.Text("a\x00")}, -1},
		{"a byte above 7f", []api.Part{keys.Text("\x7f")}, []api.Part{keys.Text("\x80")}, -1},
		{"bytes, not runes", []api.Part{keys.Text("\uffff")}, []api.Part{keys.Text("\U00010000")}, -1},
		{"the first one that is not the same", []api.Part{one, one, a}, []api.Part{one, keys.Int(2), one}, -1},
		{"long texts", []api.Part{keys.Text(strings.Repeat("x", 999))}, []api.Part{keys.Text(strings.Repeat("x", 1000))}, -1},
		{"more than MaxParts", many(100), many(101), -1},
	} {
		if got := keys.Compare(c.a, c.b); got != c.want {
			t.Errorf("%s: %d, want %d", c.name, got, c.want)
		}
		if got := keys.Compare(c.b, c.a); got != -c.want {
			t.Errorf("%s, the other way round: %d, want %d", c.name, got, -c.want)
		}
	}
}

// Rule 1: of parts of another Kind nothing is said, but that the call ends.
func TestCompareOfOtherKinds(t *testing.T) {
	odd := []api.Part{{}, {Kind: 3, Text: "a"}, {Kind: -1, Int: 1}, keys.Int(1), keys.Text("a")}
	for _, p := range odd {
		for _, q := range odd {
			if got := keys.Compare([]api.Part{p}, []api.Part{q}); got < -1 || got > 1 {
				t.Errorf("%#v and %#v: %d", p, q, got)
			}
		}
	}
}

// P7.4, P7.6: single parts, in their order.
func TestPartsInOrder(t *testing.T) {
	parts := edgeParts()
	said := make([]string, len(parts))
	for i, p := range parts {
		said[i] = put(t, p)
		isList(t, said[i], []api.Part{p})
	}
	for i, p := range parts {
		for j, q := range parts {
			want := cmp.Compare(i, j)
			if got := keys.Compare([]api.Part{p}, []api.Part{q}); got != want {
				t.Fatalf("Compare(%#v, %#v): %d, want %d", p, q, got, want)
			}
			if got := strings.Compare(said[i], said[j]); got != want {
				t.Fatalf("the keys of %#v and %#v: %d, want %d", p, q, got, want)
			}
		}
	}
}

// P7.6: lists of which many begin alike.
func TestListsInOrder(t *testing.T) {
	lists := anyLists(rand.New(rand.NewSource(5)), 1200)
	said := make([]string, len(lists))
	for i, l := range lists {
		said[i] = put(t, l...)
		isList(t, said[i], l)
	}
	for i, a := range lists {
		for j, b := range lists {
			want := keys.Compare(a, b)
			if got := strings.Compare(said[i], said[j]); got != want {
				t.Fatalf("the keys of %s and %s: %d, want %d", show(a), show(b), got, want)
			}
			if (want == 0) != slices.Equal(a, b) {
				t.Fatalf("Compare(%s, %s): %d", show(a), show(b), want)
			}
		}
	}
}

// begins asks whether l begins with these parts.
func begins(l, with []api.Part) bool {
	return len(l) >= len(with) && slices.Equal(l[:len(with)], with)
}

// inRange asks P7.7 of one list and the parts that it may begin with.
func inRange(t *testing.T, l, with []api.Part) {
	t.Helper()
	s := put(t, l...)
	from, to, err := keys.Range(with...)
	if err != api.OK {
		t.Fatalf("Range(%s): error %d", show(with), err)
	}
	if got := from <= s && s < to; got != begins(l, with) {
		t.Fatalf("%s lies in the range of %s: %v", show(l), show(with), got)
	}
}

// P7.7
func TestRangeIsWhatBeginsSo(t *testing.T) {
	lists := anyLists(rand.New(rand.NewSource(6)), 600)
	alike := 0
	for _, with := range lists {
		for _, l := range lists {
			inRange(t, l, with)
			if begins(l, with) && len(l) > len(with) && len(with) > 0 {
				alike++
			}
		}
	}
	if alike < 100 {
		t.Errorf("only %d lists begin with another", alike)
	}
}

// P7.7: at the edges, with each part behind, and with another one in its place.
func TestRangeAtTheEdges(t *testing.T) {
	parts := edgeParts()
	some := []api.Part{keys.Int(0), keys.Int(-1), keys.Int(255), keys.Int(1<<63 - 1), keys.Int(-1 << 63), keys.Text(""), keys.Text("\x00"), keys.Text("a"), keys.Text("aaaaaaaa"), keys.Text(strings.Repeat("\xff", api.MaxPart))}
	for _, p := range parts {
		for _, q := range some {
			inRange(t, []api.Part{p}, []api.Part{q})
			inRange(t, []api.Part{q}, []api.Part{p})
			inRange(t, []api.Part{q, p}, []api.Part{q})
			inRange(t, []api.Part{p, q}, []api.Part{p})
			inRange(t, []api.Part{p, q}, []api.Part{q})
			inRange(t, []api.Part{q}, []api.Part{q, p})
		}
		inRange(t, []api.Part{p}, nil)
	}
	inRange(t, nil, nil)
	inRange(t, nil, many(1))
	inRange(t, many(api.MaxParts), many(api.MaxParts))
	inRange(t, many(api.MaxParts-1), many(api.MaxParts))
}
