package btree

import (
	"maps"
	"slices"

	"klaxon/api"
)

// walk is the way of one call through the pages of a tree.
type walk struct {
	nodes api.Nodes
	room  int
	met   map[int]struct{} // the pages that were loaded: a tree has each once
}

// setOut has the first errors of all calls (P5.1).
func setOut(n api.Nodes) (*walk, api.Errno) {
	if n == nil {
		return nil, api.ErrNone
	}
	room := n.Room()
	if room < api.MinRoom {
		return nil, api.ErrArg
	}
	return &walk{nodes: n, room: room, met: map[int]struct{}{}}, api.OK
}

// load refuses a page that was met: so no walk goes on for ever.
func (w *walk) load(page int) ([]byte, api.Errno) {
	if _, again := w.met[page]; again {
		return nil, api.ErrTree
	}
	w.met[page] = struct{}{}
	p, err := w.nodes.Load(page)
	if err != api.OK {
		return nil, err
	}
	if len(p) > w.room {
		return nil, api.ErrTree
	}
	return p, api.OK
}

func (w *walk) lay(p []byte) (int, api.Errno) {
	page, err := w.nodes.Lay(p)
	if err == api.OK && page < 1 {
		return 0, api.ErrTree
	}
	return page, err
}

// pages is the pages that were met, rising.
func (w *walk) pages() []int {
	return slices.Sorted(maps.Keys(w.met))
}

// branch is what is known of a node ahead of its loading.
type branch struct {
	page  int
	level int
	keys  int
	first string // its lowest key, or empty, if it is not known
	end   string // its keys are below this one, if it is not empty
}

// trunk is the branch of a tree that is not empty.
func trunk(t api.Tree) (branch, api.Errno) {
	if t.Root < 1 || t.Keys < 1 || t.Depth < leaf || t.Depth > api.MaxDeep {
		return branch{}, api.ErrTree
	}
	return branch{page: t.Root, level: t.Depth, keys: t.Keys}, api.OK
}

// below is the branch of a cell of the node of this one.
func (b branch) below(cells []cell, at int) branch {
	end := b.end
	if at+1 < len(cells) {
		end = cells[at+1].key
	}
	c := cells[at]
	return branch{page: c.page, level: b.level - 1, keys: c.count, first: c.key, end: end}
}

// node is the cells of a branch's node, all of which are as Put and Delete lay
// them.
func (w *walk) node(b branch) ([]cell, api.Errno) {
	p, err := w.load(b.page)
	if err != api.OK {
		return nil, err
	}
	cells, ok := nodeCells(b.level, p)
	if !ok || !b.fits(cells) || !w.sound(b.level, cells) {
		return nil, api.ErrTree
	}
	return cells, api.OK
}

// fits tells whether the cells are those of which the branch speaks.
func (b branch) fits(cells []cell) bool {
	if len(cells) == 0 || !rising(cells) || keysOf(b.level, cells) != b.keys {
		return false
	}
	if b.first != "" && b.first != cells[0].key {
		return false
	}
	return b.end == "" || cells[len(cells)-1].key < b.end
}

// sound tells whether each cell may stand in a node of that level.
func (w *walk) sound(level int, cells []cell) bool {
	if level > leaf && len(cells) < 2 {
		return false
	}
	for _, c := range cells {
		if level == leaf && !w.soundValue(c) || level > leaf && !soundBranch(level, c) {
			return false
		}
	}
	return true
}

// soundBranch knows that each node above the leaves has two cells at least, so
// that fewer keys would not reach down to the leaves.
func soundBranch(level int, c cell) bool {
	return c.page > 0 && c.count>>(level-1-leaf) > 0
}

// reach is the keys that are not below from, and below to, if that is not
// empty.
type reach struct {
	from, to string
}

func (r reach) has(key string) bool {
	return key >= r.from && !r.isAhead(key)
}

// isAhead tells whether all of the reach is below the key.
func (r reach) isAhead(key string) bool {
	return r.to != "" && key >= r.to
}

// all visits the leaves' cells of a tree that are within reach, by rising keys.
func (w *walk) all(t api.Tree, r reach, visit func(cell) api.Errno) api.Errno {
	if t == (api.Tree{}) {
		return api.OK
	}
	b, err := trunk(t)
	if err != api.OK {
		return err
	}
	return w.within(b, r, visit)
}

func (w *walk) within(b branch, r reach, visit func(cell) api.Errno) api.Errno {
	cells, err := w.node(b)
	for i, c := range cells {
		switch {
		case r.isAhead(c.key):
			return api.OK
		case b.level == leaf && r.has(c.key):
			err = visit(c)
		case b.level > leaf && (i+1 == len(cells) || cells[i+1].key > r.from):
			err = w.within(b.below(cells, i), r, visit)
		}
		if err != api.OK {
			return err
		}
	}
	return err
}
