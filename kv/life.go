package kv

// life tells which trees use a page: those from the commit born on, up to the
// commit died, which did not use it any more; the last commit's tree, too, if
// died is 0. A page that is free has none (no commit has the Seq 0).
type life struct {
	born uint64
	died uint64
}

func (l life) free() bool { return l == life{} }

// serves is whether one of the trees that use the page may be seen: that of
// the last commit, or one that a transaction sees.
func (l life) serves(seen map[uint64]int) bool {
	if l.died == 0 {
		return true
	}
	for seq := range seen {
		if l.born <= seq && seq < l.died {
			return true
		}
	}
	return false
}

// sweep frees the pages of trees that nobody may see any more.
func (db *DB) sweep() {
	for id, l := range db.lives {
		if !l.serves(db.seen) {
			db.lives[id] = life{}
		}
	}
}
