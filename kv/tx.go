package kv

import (
	"slices"
	"strings"

	"klaxon/api"
	"klaxon/btree"
)

// Tx is a transaction.
type Tx struct {
	db    *DB
	meta  api.Meta            // of the tree that it sees
	puts  map[string]put      // what it has put, by key in the tree; nil, if it may only read
	gone  map[string]struct{} // what it has deleted
	ended bool
}

// put is what a transaction has put.
type put struct{ value string }

// Get is a key's value, and whether it is there (P6.5).
func (t *Tx) Get(bucket, key string) (string, bool, api.Errno) {
	err := t.state()
	switch {
	case err != api.OK:
		return "", false, err
	case !isBucket(bucket) || !isInner(key):
		return "", false, api.ErrKey
	}
	whole := prefix(bucket) + key
	if p, ok := t.puts[whole]; ok {
		return p.value, true, api.OK
	}
	if t.deleted(whole) {
		return "", false, api.OK
	}
	return btree.Get(storeOf(t.db), treeOf(t.meta), whole)
}

// Scan is the first most pairs of a bucket whose keys are not below from, and
// below to, if that is not empty (P6.5).
func (t *Tx) Scan(bucket, from, to string, most int) ([]api.Pair, api.Errno) {
	err := t.state()
	switch {
	case err != api.OK:
		return nil, err
	case !isBucket(bucket):
		return nil, api.ErrKey
	case most < 0:
		return nil, api.ErrArg
	}
	begin := prefix(bucket)
	first, end := begin+from, begin+to
	if to == "" {
		end = behind(begin)
	}
	pairs, err := t.between(first, end)
	if err != api.OK {
		return nil, err
	}
	pairs = slices.Clone(pairs[:min(most, len(pairs))])
	for i := range pairs {
		pairs[i].Key = strings.TrimPrefix(pairs[i].Key, begin)
	}
	return pairs, api.OK
}

// between is the pairs that the transaction sees, by rising keys of the tree,
// from first up to end.
func (t *Tx) between(first, end string) ([]api.Pair, api.Errno) {
	pairs, err := btree.Scan(storeOf(t.db), treeOf(t.meta), first, end)
	if err != api.OK {
		return nil, err
	}
	pairs = slices.DeleteFunc(pairs, func(p api.Pair) bool {
		_, anew := t.puts[p.Key]
		return anew || t.deleted(p.Key)
	})
	for key, p := range t.puts {
		if first <= key && key < end {
			pairs = append(pairs, api.Pair{Key: key, Value: p.value})
		}
	}
	slices.SortFunc(pairs, func(a, b api.Pair) int { return strings.Compare(a.Key, b.Key) })
	return pairs, api.OK
}

// Put lets the key have that value, in the transaction (P6.6).
func (t *Tx) Put(bucket, key, value string) api.Errno {
	if err := t.mayChange(bucket, key); err != api.OK {
		return err
	}
	if len(value) > api.MaxValue {
		return api.ErrKey
	}
	whole := prefix(bucket) + key
	delete(t.gone, whole)
	t.puts[whole] = put{value}
	return api.OK
}

// Delete lets the key not be there, in the transaction (P6.6).
func (t *Tx) Delete(bucket, key string) api.Errno {
	if err := t.mayChange(bucket, key); err != api.OK {
		return err
	}
	whole := prefix(bucket) + key
	delete(t.puts, whole)
	t.gone[whole] = struct{}{}
	return api.OK
}

// Commit ends the transaction, and makes what it put and deleted last (P6.7).
func (t *Tx) Commit() api.Errno {
	err := t.state()
	if err == api.ErrNone || err == api.ErrDone {
		return err
	}
	puts, gone := t.puts, t.gone
	t.end()
	if err != api.OK || len(puts)+len(gone) == 0 {
		return err
	}
	return t.db.commit(puts, gone)
}

// Abort ends the transaction as if it had not been (P6.7).
func (t *Tx) Abort() api.Errno {
	if err := t.state(); err == api.ErrNone || err == api.ErrDone {
		return err
	}
	t.end()
	return api.OK
}

// commit makes another tree the last commit's. Until its meta is sealed, no
// page has changed that a tree uses: with an error but the disk's all can go on.
func (db *DB) commit(puts map[string]put, gone map[string]struct{}) api.Errno {
	s := storeOf(db)
	tree, err := s.change(treeOf(db.last), puts, gone)
	if err == api.OK {
		err = s.flush()
	}
	m := api.Meta{Seq: db.last.Seq + 1, Root: tree.Root, Keys: tree.Keys, Depth: tree.Depth}
	if err == api.OK {
		err = seal(db.disk, db.per, m)
	}
	if err == api.OK {
		s.settle(m)
	}
	db.broken = err == api.ErrDead
	return err
}

// state is the first errors of all calls: there is none, it has ended, its DB
// is broken.
func (t *Tx) state() api.Errno {
	switch {
	case t == nil:
		return api.ErrNone
	case t.ended:
		return api.ErrDone
	case t.db.broken:
		return api.ErrBroken
	}
	return api.OK
}

// mayChange is the errors that Put and Delete share.
func (t *Tx) mayChange(bucket, key string) api.Errno {
	err := t.state()
	switch {
	case err != api.OK:
		return err
	case t.puts == nil:
		return api.ErrRead
	case !isBucket(bucket) || !isInner(key):
		return api.ErrKey
	}
	return api.OK
}

func (t *Tx) deleted(whole string) bool {
	_, ok := t.gone[whole]
	return ok
}

// end lets go of the tree that the transaction saw, and of what it had put.
func (t *Tx) end() {
	db := t.db
	t.ended = true
	if t.puts != nil {
		db.writing = false
	}
	t.puts, t.gone = nil, nil
	db.seen[t.meta.Seq]--
	if db.seen[t.meta.Seq] > 0 {
		return
	}
	delete(db.seen, t.meta.Seq)
	if t.meta.Seq != db.last.Seq {
		db.sweep()
	}
}
