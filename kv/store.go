package kv

import (
	"bytes"
	"maps"
	"slices"

	"klaxon/api"
	"klaxon/btree"
	"klaxon/page"
)

// node is the Kind of the pages of a tree.
const node = 'T'

// store is where btree finds the pages of a DB, and lays those of a commit.
// These are kept in memory until all of them are there, so that a commit for
// which there is no room leaves the disk as it was.
type store struct {
	*DB
	laid    map[int][]byte // by number of page
	dropped []int          // the pages of the last commit's tree that are not used any more
	low     int            // no page below it is free
}

func storeOf(db *DB) *store {
	return &store{DB: db, laid: map[int][]byte{}, low: api.FirstPage}
}

// Room: api.Nodes.
func (s *store) Room() int { return page.Room(s.per * s.disk.Size()) }

// Load: api.Nodes. A page that is none of a tree's is ErrTree: what other
// errors there are, are the disk's.
func (s *store) Load(id int) ([]byte, api.Errno) {
	if b, ok := s.laid[id]; ok {
		return bytes.Clone(b), api.OK
	}
	if id < api.FirstPage || id >= len(s.lives) {
		return nil, api.ErrTree
	}
	x, err := page.Read(s.disk, s.per, id)
	if err == api.ErrPage || err == api.OK && x.Kind != node {
		return nil, api.ErrTree
	}
	return x.Load, err
}

// Lay: api.Nodes. It is always the lowest page, so that what is laid hangs on
// which pages are in use, and on nothing else.
func (s *store) Lay(p []byte) (int, api.Errno) {
	for ; s.low < len(s.lives); s.low++ {
		if _, ok := s.laid[s.low]; !ok && s.lives[s.low].free() {
			s.laid[s.low] = bytes.Clone(p)
			return s.low, api.OK
		}
	}
	return 0, api.ErrFull
}

// change is the tree with what a transaction put and deleted, by rising keys.
func (s *store) change(tree api.Tree, puts map[string]put, gone map[string]struct{}) (api.Tree, api.Errno) {
	keys := slices.AppendSeq(slices.Collect(maps.Keys(puts)), maps.Keys(gone))
	slices.Sort(keys)
	for _, key := range keys {
		next, unused, err := s.step(tree, key, puts)
		if err != api.OK {
			return api.Tree{}, err
		}
		s.drop(unused)
		tree = next
	}
	return tree, api.OK
}

// step is the tree with one key put, or deleted if it is none of puts.
func (s *store) step(tree api.Tree, key string, puts map[string]put) (api.Tree, []int, api.Errno) {
	if p, ok := puts[key]; ok {
		return btree.Put(s, tree, key, p.value)
	}
	return btree.Delete(s, tree, key)
}

// drop lets go of pages that the tree under way does not use any more. Those
// that were laid for it nobody else has seen: they may be laid again at once.
func (s *store) drop(unused []int) {
	for _, id := range unused {
		if _, ok := s.laid[id]; ok {
			delete(s.laid, id)
			s.low = min(s.low, id)
		} else {
			s.dropped = append(s.dropped, id)
		}
	}
}

// flush writes the pages that were laid, and syncs them.
func (s *store) flush() api.Errno {
	for _, id := range slices.Sorted(maps.Keys(s.laid)) {
		err := page.Write(s.disk, s.per, api.Page{Kind: node, Id: uint32(id), Load: s.laid[id]})
		if err != api.OK {
			return err
		}
	}
	return s.disk.Sync()
}

// settle takes m, whose tree is on the disk, for the last commit's.
func (s *store) settle(m api.Meta) {
	s.last = m
	for _, id := range s.dropped {
		s.lives[id].died = m.Seq
	}
	for id := range s.laid {
		s.lives[id] = life{born: m.Seq}
	}
	s.sweep()
}
