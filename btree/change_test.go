package btree_test

import (
	"math"
	"slices"
	"strings"
	"testing"

	"klaxon/api"
	"klaxon/btree"
)

// P5.1: ErrNone ahead of ErrArg ahead of ErrKey ahead of what Nodes tell.
func TestFirstErrors(t *testing.T) {
	none := api.Tree{Root: -1, Keys: -1, Depth: -1}
	good, slight := newStore(api.MinRoom), newStore(api.MinRoom-1)
	failing := newStore(api.MinRoom)
	failing.failAt, failing.fault = 1, api.ErrDead
	tree := api.Tree{Root: 1, Keys: 1, Depth: 1}
	long := strings.Repeat("k", api.MaxKey+1)
	huge := text(api.MaxValue + 1)
	for _, c := range []struct {
		name       string
		n          api.Nodes
		t          api.Tree
		key, value string
		want       api.Errno
		scan       api.Errno // of Scan and Pages, which have no key
	}{
		{"nil, with all else wrong", nil, none, "", huge, api.ErrNone, api.ErrNone},
		{"little room, with all else wrong", slight, none, "", huge, api.ErrArg, api.ErrArg},
		{"little room", slight, api.Tree{}, "a", "", api.ErrArg, api.ErrArg},
		{"no room", newStore(0), api.Tree{}, "a", "", api.ErrArg, api.ErrArg},
		{"room below 0", newStore(math.MinInt), api.Tree{}, "a", "", api.ErrArg, api.ErrArg},
		{"no key, no tree", good, none, "", "", api.ErrKey, api.ErrTree},
		{"long key, no tree", good, none, long, "", api.ErrKey, api.ErrTree},
		{"long key, no load", failing, tree, long, "", api.ErrKey, api.ErrDead},
		{"no key, empty tree", good, api.Tree{}, "", "", api.ErrKey, api.OK},
		{"long key, empty tree", good, api.Tree{}, long, "", api.ErrKey, api.OK},
		{"no tree", good, none, "a", "", api.ErrTree, api.ErrTree},
	} {
		if s, ok := c.n.(*store); ok {
			s.loads, s.lays = 0, 0
		}
		if v, ok, err := btree.Get(c.n, c.t, c.key); v != "" || ok || err != c.want {
			t.Errorf("%s: Get %q %v %d", c.name, v, ok, err)
		}
		if x, l, err := btree.Put(c.n, c.t, c.key, c.value); x != (api.Tree{}) || len(l) > 0 || err != c.want {
			t.Errorf("%s: Put %v %v %d", c.name, x, l, err)
		}
		if x, l, err := btree.Delete(c.n, c.t, c.key); x != (api.Tree{}) || len(l) > 0 || err != c.want {
			t.Errorf("%s: Delete %v %v %d", c.name, x, l, err)
		}
		if l, err := btree.Scan(c.n, c.t, c.key, ""); len(l) > 0 || err != c.scan {
			t.Errorf("%s: Scan %v %d", c.name, l, err)
		}
		if s, ok := c.n.(*store); ok {
			s.loads, s.lays = 0, 0
		}
		if l, err := btree.Pages(c.n, c.t); len(l) > 0 || err != c.scan {
			t.Errorf("%s: Pages %v %d", c.name, l, err)
		}
	}
}

// P5.1: a value of one byte more than MaxValue, ahead of what Load tells.
func TestLongValue(t *testing.T) {
	s := newStore(api.MinRoom)
	for _, x := range []api.Tree{{}, {Root: 9, Keys: 1, Depth: 1}, {Root: -1}} {
		if y, l, err := btree.Put(s, x, "a", text(api.MaxValue+1)); y != (api.Tree{}) || len(l) > 0 || err != api.ErrKey {
			t.Error(x, y, l, err)
		}
	}
	if s.loads+s.lays > 0 {
		t.Error("pages were asked for")
	}
}

// P5.2 to P5.6: the empty tree.
func TestEmpty(t *testing.T) {
	s := newStore(api.MinRoom)
	if v, ok, err := btree.Get(s, api.Tree{}, "a"); v != "" || ok || err != api.OK {
		t.Error(v, ok, err)
	}
	if x, l, err := btree.Delete(s, api.Tree{}, "a"); x != (api.Tree{}) || len(l) > 0 || err != api.OK {
		t.Error(x, l, err)
	}
	if l, err := btree.Scan(s, api.Tree{}, "", ""); len(l) > 0 || err != api.OK {
		t.Error(l, err)
	}
	if l, err := btree.Pages(s, api.Tree{}); len(l) > 0 || err != api.OK {
		t.Error(l, err)
	}
	if s.loads+s.lays > 0 {
		t.Error("pages were asked for")
	}
}

// The chapter's example.
func TestExample(t *testing.T) {
	s := newStore(api.MinRoom)
	x := filled(t, s, api.Pair{Key: "a", Value: "1"}, api.Pair{Key: "b", Value: "2"})
	if x.Keys != 2 || x.Depth != 1 {
		t.Fatal(x)
	}
	hasAll(t, s, x, map[string]string{"a": "1", "b": "2"})
	if x = mustDelete(t, s, mustDelete(t, s, x, "a"), "b"); x != (api.Tree{}) {
		t.Fatal(x)
	}
}

// P5.2, P5.3, P5.6: keys and values of all edges, in pages of several sizes.
func TestSizes(t *testing.T) {
	for _, room := range []int{api.MinRoom, api.MinRoom + 1, 487, 1013, 8181, 131079, 131080, 1 << 20} {
		m := room - 8
		s := newStore(room)
		var x api.Tree
		model := map[string]string{}
		for i, size := range []int{0, 1, m/8 - 1, m / 8, m/8 + 1, m - 1, m, m + 1, 2 * m, 2*m + 1, api.MaxValue - 1, api.MaxValue} {
			if size > api.MaxValue {
				continue
			}
			for _, k := range []string{string(rune('a' + i)), wide(i), key(i), "\x00\xff" + key(i)} {
				x = mustPut(t, s, x, k, body(size, i))
				model[k] = body(size, i)
			}
		}
		for k, v := range model {
			if got, ok, err := btree.Get(s, x, k); got != v || !ok || err != api.OK {
				t.Fatalf("room %d, key %q: %d bytes, %v, %d; %d were put", room, k, len(got), ok, err, len(v))
			}
		}
		hasAll(t, s, x, model)
		within(t, s, x, model)
		s.check(t)
	}
}

// P5.6: a value of m / 8 bytes has no page of its own; longer ones have as many
// as have room for them.
func TestPagesOfValues(t *testing.T) {
	m := api.MinRoom - 8
	for _, c := range []struct{ size, pages int }{
		{0, 1}, {m / 8, 1}, {m/8 + 1, 2}, {m, 2}, {m + 1, 3}, {2 * m, 3}, {2*m + 1, 4}, {api.MaxValue, 1 + 35},
	} {
		s := newStore(api.MinRoom)
		x := mustPut(t, s, api.Tree{}, "a", text(c.size))
		if l := mustPages(t, s, x); len(l) != c.pages || len(s.laid) != c.pages || x.Depth != 1 || x.Keys != 1 {
			t.Errorf("a value of %d bytes: %d pages", c.size, len(l))
		}
	}
}

// P5.3: a key that is put again, with the same value and with another one.
func TestPutAgain(t *testing.T) {
	values := []string{"", "1", text(59), text(60), body(1000, 1), body(1000, 2), body(16384, 3)}
	for _, was := range values {
		for _, is := range values {
			s := newStore(api.MinRoom)
			elder := filled(t, s, api.Pair{Key: "a", Value: "x"}, api.Pair{Key: "b", Value: was}, api.Pair{Key: "c", Value: body(900, 9)})
			before := mustPages(t, s, elder)
			x, freed, err := btree.Put(s, elder, "b", is)
			if err != api.OK || x.Keys != 3 || x.Depth != 1 {
				t.Fatal(x, err)
			}
			hasAll(t, s, x, map[string]string{"a": "x", "b": is, "c": body(900, 9)})
			hasAll(t, s, elder, map[string]string{"a": "x", "b": was, "c": body(900, 9)})
			told(t, before, mustPages(t, s, x), freed)
		}
	}
}

// told tells whether freed is just what was used and is not any more.
func told(t *testing.T, before, after, freed []int) {
	t.Helper()
	var want []int
	for _, n := range before {
		if !slices.Contains(after, n) {
			want = append(want, n)
		}
	}
	if !slices.Equal(freed, want) {
		t.Fatalf("pages %v, then %v: told as not used %v", before, after, freed)
	}
}

// P5.4: a key that is not there: t itself, no page, nothing laid.
func TestDeleteOfNone(t *testing.T) {
	s := newStore(api.MinRoom)
	var x api.Tree
	for i := range 200 {
		x = mustPut(t, s, x, key(2*i), text(i%70))
	}
	lays := s.lays
	for _, k := range []string{"a", "z", key(1), key(199), key(399), key(0) + "x", key(0)[:7]} {
		if y, l, err := btree.Delete(s, x, k); y != x || len(l) > 0 || err != api.OK {
			t.Errorf("Delete(%q): %v %v %d", k, y, l, err)
		}
		if v, ok, err := btree.Get(s, x, k); v != "" || ok || err != api.OK {
			t.Errorf("Get(%q): %q %v %d", k, v, ok, err)
		}
	}
	if s.lays != lays {
		t.Error("pages were laid")
	}
}

// P5.4: the last key deleted leaves the zero Tree, and all its pages are told.
func TestDeleteLast(t *testing.T) {
	s := newStore(api.MinRoom)
	x := mustPut(t, s, api.Tree{}, "a", body(2000, 1))
	before := mustPages(t, s, x)
	y, freed, err := btree.Delete(s, x, "a")
	if y != (api.Tree{}) || err != api.OK || !slices.Equal(freed, before) || len(freed) != 6 {
		t.Fatal(y, freed, err)
	}
	hasAll(t, s, x, map[string]string{"a": body(2000, 1)})
}

// P5.5: from and to at, ahead of and behind keys, empty, the same, and crossed.
func TestScan(t *testing.T) {
	for _, size := range []int{3, 40, 400} {
		s := newStore(api.MinRoom)
		var x api.Tree
		var all []api.Pair
		for i := range size {
			p := api.Pair{Key: key(2 * i), Value: body(i%200, i)}
			all = append(all, p)
			x = mustPut(t, s, x, p.Key, p.Value)
		}
		ends := []string{"", "a", "z", key(0), key(1), key(2), key(size), key(size + 1), key(2*size - 2), key(2*size - 1), key(2*size - 2), key(0) + "\x00", strings.Repeat("k", 100)}
		for _, from := range ends {
			for _, to := range ends {
				var want []api.Pair
				for _, p := range all {
					if p.Key >= from && (to == "" || p.Key < to) {
						want = append(want, p)
					}
				}
				if got, err := btree.Scan(s, x, from, to); err != api.OK || !slices.Equal(got, want) {
					t.Fatalf("%d keys, Scan(%q, %q): %d pairs, %d; %d wanted", size, from, to, len(got), err, len(want))
				}
			}
		}
	}
}

// P5.5: keys are held against each other byte by byte.
func TestOrder(t *testing.T) {
	s := newStore(api.MinRoom)
	want := []string{"\x00", "\x00\x00", "\x00\xff", "A", "B", "a", "a\x00", "aa", "ab", "b", "\x7f", "\x80", "\xc3\xa9", "\xff", "\xff\xff"}
	var x api.Tree
	for i := range want {
		x = mustPut(t, s, x, want[i*7%len(want)], "")
	}
	got, err := btree.Scan(s, x, "", "")
	if err != api.OK || len(got) != len(want) {
		t.Fatal(got, err)
	}
	for i, p := range got {
		if p.Key != want[i] {
			t.Errorf("place %d: %q", i, p.Key)
		}
	}
}

// P5.5: a scan loads no more than the way to its keys.
func TestScanIsShort(t *testing.T) {
	s := newStore(api.MinRoom)
	var x api.Tree
	for i := range 2000 {
		x = mustPut(t, s, x, key(i), text(20))
	}
	for i := range 2000 {
		s.loads = 0
		if l, err := btree.Scan(s, x, key(i), key(i+1)); len(l) != 1 || err != api.OK || s.loads != x.Depth {
			t.Fatal(i, len(l), err, s.loads, x.Depth)
		}
	}
}

// What is answered is the caller's: it shares nothing with a later answer.
func TestAnswersAreNew(t *testing.T) {
	s := newStore(api.MinRoom)
	var x api.Tree
	for i := range 100 {
		x = mustPut(t, s, x, key(i), text(i))
	}
	pages, pairs := mustPages(t, s, x), 0
	spoil := slices.Clone(pages)
	for i, l := range [][]int{mustPages(t, s, x), mustPages(t, s, x)} {
		if !slices.Equal(l, spoil) {
			t.Fatal(i, l)
		}
		clear(l[:cap(l)])
	}
	for range 2 {
		l, err := btree.Scan(s, x, key(20), key(30))
		if err != api.OK || len(l) != 10 || l[0] != (api.Pair{Key: key(20), Value: text(20)}) {
			t.Fatal(l, err)
		}
		pairs += len(l)
		clear(l[:cap(l)])
	}
	_, freed, _ := btree.Delete(s, x, key(50))
	want := slices.Clone(freed)
	clear(freed[:cap(freed)])
	if _, again, _ := btree.Delete(s, x, key(50)); !slices.Equal(again, want) {
		t.Fatal(again, want)
	}
	s.check(t)
}
