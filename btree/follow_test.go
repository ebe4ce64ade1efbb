package btree_test

import (
	"maps"
	"math"
	"math/rand"
	"slices"
	"testing"

	"klaxon/api"
	"klaxon/btree"
)

// P5.6: pages and depth after keys rising, falling and mixed, and after most
// were deleted; with narrow and wide keys, small and long values.
func TestBounds(t *testing.T) {
	const count = 600
	orders := map[string]func(i int) int{
		"rising":  func(i int) int { return i },
		"falling": func(i int) int { return count - 1 - i },
		"mixed":   func(i int) int { return i * 389 % count },
	}
	kinds := map[string]struct {
		key   func(int) string
		value func(int) string
	}{
		"narrow": {key, func(i int) string { return text(i % 3) }},
		"wide":   {wide, func(i int) string { return text(59) }},
		"uneven": {func(i int) string {
			if i%2 == 0 {
				return wide(i)
			}
			return "k" + key(i)
		}, func(i int) string { return text(i * i % 61) }},
		"long": {key, func(i int) string { return text(i * 37 % 1500) }},
	}
	for order, place := range orders {
		for kind, k := range kinds {
			s := newStore(api.MinRoom)
			var x api.Tree
			model := map[string]string{}
			check := func(i int) {
				if i < 20 || i%97 == 0 {
					within(t, s, x, model)
				}
			}
			for i := range count {
				j := place(i)
				model[k.key(j)] = k.value(j)
				x = mustPut(t, s, x, k.key(j), k.value(j))
				check(i)
			}
			hasAll(t, s, x, model)
			if x.Depth < 2 || kind == "wide" && x.Depth < 4 {
				t.Errorf("%s, %s: a tree of depth %d", order, kind, x.Depth)
			}
			for i := range count {
				j := place(i * 7 % count)
				delete(model, k.key(j))
				x = mustDelete(t, s, x, k.key(j))
				check(count - 1 - i)
			}
			if x != (api.Tree{}) {
				t.Errorf("%s, %s: %v is left", order, kind, x)
			}
		}
	}
}

// P5.6: where the keys that are left lie far from each other, the pages between
// them are joined.
func TestFewAreLeft(t *testing.T) {
	s := newStore(api.MinRoom)
	var x api.Tree
	model := map[string]string{}
	for i := range 3000 {
		x = mustPut(t, s, x, key(i), text(30))
	}
	for i := range 3000 {
		if i%500 == 250 {
			model[key(i)] = text(30)
			continue
		}
		x = mustDelete(t, s, x, key(i))
	}
	hasAll(t, s, x, model)
	within(t, s, x, model)
	if l := mustPages(t, s, x); x.Depth > 2 || len(l) > 4 {
		t.Fatal(x, l)
	}
}

// P5.6: a node is parted when its page is full, and not ahead of that.
func TestNodesAreFull(t *testing.T) {
	s := newStore(api.MinRoom)
	var x api.Tree
	for i := range 16 {
		x = mustPut(t, s, x, key(i), text(20))
		// A level, and 9 bytes of a key, 1 of no page, 21 of a value each.
		if want := 1 + (1+31*(i+1)-1)/api.MinRoom; x.Depth != want {
			t.Fatalf("%d keys: %v", i+1, x)
		}
	}
}

// P5.3, P5.4: nothing is laid but the way to the key and what is parted of it.
func TestLittleIsLaid(t *testing.T) {
	s := newStore(api.MinRoom)
	var x api.Tree
	for i := range 2000 {
		s.lays, s.loads = 0, 0
		x = mustPut(t, s, x, key(i*1327%2000), text(20))
		if s.lays > 2*x.Depth || s.loads > 2*x.Depth {
			t.Fatal(i, s.lays, s.loads, x)
		}
	}
	for i := range 2000 {
		s.lays, s.loads = 0, 0
		x = mustDelete(t, s, x, key(i*1327%2000))
		if s.lays > 8 || s.loads > 8 {
			t.Fatal(i, s.lays, s.loads, x)
		}
	}
}

type past struct {
	tree  api.Tree
	model map[string]string
}

// randomKey is from a small set, so that keys are met again.
func randomKey(r *rand.Rand) string {
	i := r.Intn(150)
	switch i % 3 {
	case 0:
		return wide(i)
	case 1:
		return key(i)
	}
	return string([]byte{byte(i), byte(i / 7)})
}

func randomValue(r *rand.Rand, room int) string {
	m := room - 8
	sizes := []int{0, 1, m / 8, m/8 + 1, m, m + 1, r.Intn(m/8 + 1), r.Intn(m/8 + 1), r.Intn(m/8 + 1), r.Intn(3 * m)}
	return body(min(sizes[r.Intn(len(sizes))], api.MaxValue), r.Intn(1000))
}

// P5.7: every elder tree is read as it was; the pages that are told are in the
// elder tree and not in the new one, and all of them are told; each page of the
// new one was of the elder one or was laid.
func TestNeverChanged(t *testing.T) {
	for seed := range int64(6) {
		r := rand.New(rand.NewSource(seed))
		s := newStore([]int{api.MinRoom, 500, 1000}[seed%3])
		s.step = []int{1, 1000003, math.MaxInt32 * 1000}[seed%3]
		now := past{model: map[string]string{}}
		var history []past
		for range 500 {
			k := randomKey(r)
			next := past{model: maps.Clone(now.model)}
			before, laid := mustPages(t, s, now.tree), len(s.laid)
			var freed []int
			var err api.Errno
			if r.Intn(5) < 2 {
				next.tree, freed, err = btree.Delete(s, now.tree, k)
				delete(next.model, k)
			} else {
				v := randomValue(r, s.room)
				next.tree, freed, err = btree.Put(s, now.tree, k, v)
				next.model[k] = v
			}
			if err != api.OK {
				t.Fatal(err)
			}
			after := mustPages(t, s, next.tree)
			told(t, before, after, freed)
			for _, n := range after {
				if !slices.Contains(before, n) && !slices.Contains(s.laid[laid:], n) {
					t.Fatalf("page %d was neither of the elder tree nor laid", n)
				}
			}
			// All that was laid is used: nothing is lost.
			for _, n := range s.laid[laid:] {
				if !slices.Contains(after, n) {
					t.Fatalf("page %d was laid, and is not used", n)
				}
			}
			hasAll(t, s, next.tree, next.model)
			within(t, s, next.tree, next.model)
			history, now = append(history, now), next
		}
		for _, p := range history {
			hasAll(t, s, p.tree, p.model)
		}
		s.check(t)
	}
}

// P5.7: pages that were told as not used may be gone: the new tree is whole.
func TestToldPagesMayGo(t *testing.T) {
	r := rand.New(rand.NewSource(9))
	s := newStore(api.MinRoom)
	var x api.Tree
	model := map[string]string{}
	for range 3000 {
		k, v := randomKey(r), randomValue(r, s.room)
		var freed []int
		var err api.Errno
		if r.Intn(2) == 0 {
			x, freed, err = btree.Delete(s, x, k)
			delete(model, k)
		} else {
			x, freed, err = btree.Put(s, x, k, v)
			model[k] = v
		}
		if err != api.OK {
			t.Fatal(err)
		}
		for _, n := range freed {
			delete(s.pages, n)
		}
		if l := mustPages(t, s, x); len(l) != len(s.pages) {
			t.Fatalf("%d pages are used, %d are there", len(l), len(s.pages))
		}
	}
	hasAll(t, s, x, model)
}

// P5.8: what is put and then deleted leaves what was there, whatever was there.
func TestPutThenDelete(t *testing.T) {
	for _, count := range []int{0, 1, 5, 60, 500} {
		s := newStore(api.MinRoom)
		var x api.Tree
		model := map[string]string{}
		for i := range count {
			model[key(3*i)] = text(i % 80)
			x = mustPut(t, s, x, key(3*i), text(i%80))
		}
		for i := range 3 * count {
			k := key(i)
			if _, there := model[k]; there {
				continue
			}
			hasAll(t, s, mustDelete(t, s, mustPut(t, s, x, k, text(i%100)), k), model)
		}
		y := x
		for i := range 300 {
			y = mustPut(t, s, y, wide(i), text(i))
		}
		for i := range 300 {
			y = mustDelete(t, s, y, wide(i*7%300))
		}
		hasAll(t, s, y, model)
		if count == 0 && y != (api.Tree{}) {
			t.Error(y)
		}
	}
}

// The same calls lay the same bytes and answer the same.
func TestSameAgain(t *testing.T) {
	run := func() (*store, []any) {
		r := rand.New(rand.NewSource(4))
		s := newStore(600)
		var x api.Tree
		var all []any
		for range 300 {
			y, freed, err := btree.Put(s, x, randomKey(r), randomValue(r, s.room))
			all = append(all, y, len(freed), err)
			if x = y; r.Intn(3) == 0 {
				x, freed, err = btree.Delete(s, x, randomKey(r))
				all = append(all, x, len(freed), err)
			}
		}
		return s, all
	}
	s, a := run()
	z, b := run()
	if !slices.Equal(a, b) || !slices.Equal(s.laid, z.laid) {
		t.Error("other answers")
	}
	for n, p := range s.pages {
		if !slices.Equal(p, z.pages[n]) {
			t.Fatalf("page %d has other bytes", n)
		}
	}
}
