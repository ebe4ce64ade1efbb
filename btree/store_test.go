package btree_test

import (
	"bytes"
	"fmt"
	"maps"
	"slices"
	"strings"
	"testing"

	"klaxon/api"
	"klaxon/btree"
)

// handed is bytes that went to or from the package, and how they were then.
type handed struct{ as, was []byte }

// store has pages whose numbers are spread, and may fail at a call.
type store struct {
	room   int
	step   int // from one page's number to the next one's
	pages  map[int][]byte
	laid   []int
	loads  int
	lays   int
	failAt int // which call of Load and Lay fails, from 1 on; 0: none
	fault  api.Errno
	seen   []handed
}

func newStore(room int) *store {
	return &store{room: room, step: 1, pages: map[int][]byte{}}
}

func (s *store) Room() int { return s.room }

func (s *store) failing() bool { return s.failAt > 0 && s.loads+s.lays == s.failAt }

func (s *store) Lay(p []byte) (int, api.Errno) {
	s.lays++
	if s.failing() {
		return 0, s.fault
	}
	if len(p) > s.room {
		return 0, api.ErrLong
	}
	s.seen = append(s.seen, handed{p, bytes.Clone(p)})
	n := 1 + s.step*len(s.laid)
	s.pages[n] = bytes.Clone(p)
	s.laid = append(s.laid, n)
	return n, api.OK
}

func (s *store) Load(n int) ([]byte, api.Errno) {
	s.loads++
	if s.failing() {
		return nil, s.fault
	}
	p, ok := s.pages[n]
	if !ok {
		return nil, api.ErrPage
	}
	given := bytes.Clone(p)
	s.seen = append(s.seen, handed{given, p})
	return given, api.OK
}

// check tells whether bytes that were handed over were changed later.
func (s *store) check(t *testing.T) {
	t.Helper()
	for i, h := range s.seen {
		if !bytes.Equal(h.as, h.was) {
			t.Fatalf("handing over %d: the bytes were changed", i)
		}
	}
}

// copied is a store with pages of its own.
func (s *store) copied() *store {
	x := newStore(s.room)
	x.step, x.laid = s.step, slices.Clone(s.laid)
	for n, p := range s.pages {
		x.pages[n] = bytes.Clone(p)
	}
	return x
}

func mustPut(t *testing.T, s *store, x api.Tree, key, value string) api.Tree {
	t.Helper()
	y, _, err := btree.Put(s, x, key, value)
	if err != api.OK {
		t.Fatalf("Put(%q): %d", key, err)
	}
	return y
}

func mustDelete(t *testing.T, s *store, x api.Tree, key string) api.Tree {
	t.Helper()
	y, _, err := btree.Delete(s, x, key)
	if err != api.OK {
		t.Fatalf("Delete(%q): %d", key, err)
	}
	return y
}

// filled is a tree of all the pairs.
func filled(t *testing.T, s *store, pairs ...api.Pair) api.Tree {
	t.Helper()
	var x api.Tree
	for _, p := range pairs {
		x = mustPut(t, s, x, p.Key, p.Value)
	}
	return x
}

func mustPages(t *testing.T, s *store, x api.Tree) []int {
	t.Helper()
	l, err := btree.Pages(s, x)
	if err != api.OK {
		t.Fatalf("Pages: %d", err)
	}
	return l
}

func rising(l []int) bool {
	return slices.IsSorted(l) && len(slices.Compact(slices.Clone(l))) == len(l)
}

// pairsOf is the model's pairs by rising keys.
func pairsOf(model map[string]string) []api.Pair {
	var l []api.Pair
	for _, k := range slices.Sorted(maps.Keys(model)) {
		l = append(l, api.Pair{Key: k, Value: model[k]})
	}
	return l
}

// hasAll tells whether the tree has just what the model has.
func hasAll(t *testing.T, s *store, x api.Tree, model map[string]string) {
	t.Helper()
	got, err := btree.Scan(s, x, "", "")
	if err != api.OK || !slices.Equal(got, pairsOf(model)) || x.Keys != len(model) {
		t.Fatalf("Scan of %v: %d pairs, %d; %d pairs were put", x, len(got), err, len(model))
	}
}

// within tells whether pages and depth are within the bound of P5.6.
func within(t *testing.T, s *store, x api.Tree, model map[string]string) {
	t.Helper()
	m := s.room - 8
	most := 2 * len(model)
	for _, v := range model {
		if len(v) > m/8 {
			most += (len(v) + m - 1) / m
		}
	}
	l := mustPages(t, s, x)
	if len(l) > most || !rising(l) {
		t.Fatalf("%d pages of %d keys, at most %d: %v", len(l), len(model), most, l)
	}
	deepest := 0
	for n := len(model); n > 0; n /= 2 {
		deepest++
	}
	if x.Depth > deepest+1 || len(model) > 0 && x.Depth < 1 {
		t.Fatalf("depth %d of %d keys", x.Depth, len(model))
	}
}

func key(i int) string { return fmt.Sprintf("key%05d", i) }

// wide is a key of MaxKey bytes.
func wide(i int) string { return strings.Repeat("k", api.MaxKey-5) + fmt.Sprintf("%05d", i) }

func text(n int) string { return strings.Repeat("v", n) }

// body is n bytes that differ from place to place.
func body(n, salt int) string {
	b := make([]byte, n)
	for i := range b {
		b[i] = byte((i+salt)*7 + i/251)
	}
	return string(b)
}
