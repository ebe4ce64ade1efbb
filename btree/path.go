package btree

import (
	"slices"

	"klaxon/api"
)

// path is the nodes from a tree's root down to the leaf of a key.
type path struct {
	*walk
	steps []step
	there bool // the key is in the leaf
}

// step is a node on a path, and the place of the cell by which it goes on; in
// the leaf, the place of the key, or where it would be.
type step struct {
	branch
	cells []cell
	at    int
}

// find is the path to a key. It has the first errors of Get, Put and Delete
// (P5.1); those without a value hand in the empty one, which is right.
func find(n api.Nodes, t api.Tree, key, value string) (*path, api.Errno) {
	w, err := setOut(n)
	if err != api.OK {
		return nil, err
	}
	if len(key) < 1 || len(key) > api.MaxKey || len(value) > api.MaxValue {
		return nil, api.ErrKey
	}
	p := &path{walk: w}
	if err := p.descend(t, key); err != api.OK {
		return nil, err
	}
	return p, api.OK
}

// descend takes the empty tree as a leaf that has no cell, and no page.
func (p *path) descend(t api.Tree, key string) api.Errno {
	if t == (api.Tree{}) {
		p.steps = []step{{branch: branch{level: leaf}}}
		return api.OK
	}
	b, err := trunk(t)
	if err != api.OK {
		return err
	}
	for {
		s, err := p.step(b, key)
		if err != api.OK {
			return err
		}
		p.steps = append(p.steps, s)
		if b.level == leaf {
			return api.OK
		}
		b = b.below(s.cells, s.at)
	}
}

func (p *path) step(b branch, key string) (step, api.Errno) {
	cells, err := p.node(b)
	if err != api.OK {
		return step{}, err
	}
	at, there := seek(cells, key)
	if b.level == leaf {
		p.there = there
	} else if !there && at > 0 {
		at-- // the key would lie in the node whose lowest key is below it
	}
	return step{branch: b, cells: cells, at: at}, api.OK
}

func (p *path) last() step { return p.steps[len(p.steps)-1] }

// value is that of the key, which is there.
func (p *path) value() (string, api.Errno) {
	s := p.last()
	return p.walk.value(s.cells[s.at])
}

// change is the tree in which these cells stand for the key, and the pages that
// it does not use any more: all that were met, since each of them was on the
// way to something that is laid anew.
func (p *path) change(fresh ...cell) (api.Tree, []int, api.Errno) {
	s := p.last()
	until := s.at
	if p.there {
		until++
		if _, err := p.value(); err != api.OK {
			return api.Tree{}, nil, err
		}
	}
	t, err := p.rebuild(slices.Concat(s.cells[:s.at], fresh, s.cells[until:]))
	if err != api.OK {
		return api.Tree{}, nil, err
	}
	return t, p.pages(), api.OK
}

// rebuild is the tree whose leaf at the path's end has these cells.
func (p *path) rebuild(cells []cell) (api.Tree, api.Errno) {
	for i := len(p.steps) - 2; i >= 0; i-- {
		var err api.Errno
		cells, err = p.replace(p.steps[i], cells)
		if err != api.OK {
			return api.Tree{}, err
		}
	}
	return p.crown(p.steps[0].level, cells)
}

// replace is the cells of a step when the node by which it goes on has those
// cells. If they are few, its neighbour's are joined to them.
func (p *path) replace(s step, cells []cell) ([]cell, api.Errno) {
	from, until := s.at, s.at+1
	if p.slim(s.level-1, cells) {
		from = max(s.at-1, 0)
		until = from + 2
		joined, err := p.join(s, cells)
		if err != api.OK {
			return nil, err
		}
		cells = joined
	}
	fresh, err := p.layNodes(s.level-1, cells)
	if err != api.OK {
		return nil, err
	}
	return slices.Concat(s.cells[:from], fresh, s.cells[until:]), api.OK
}

// join is the cells with those of the node ahead; of the first node, with those
// of the one behind, which there is in each node above the leaves.
func (p *path) join(s step, cells []cell) ([]cell, api.Errno) {
	if s.at > 0 {
		ahead, err := p.node(s.below(s.cells, s.at-1))
		return slices.Concat(ahead, cells), err
	}
	behind, err := p.node(s.below(s.cells, s.at+1))
	return slices.Concat(cells, behind), err
}

func (p *path) slim(level int, cells []cell) bool {
	return len(nodeBytes(level, cells)) < p.room/slimPart
}

// layNodes is the cells of the nodes in which these cells are laid.
func (p *path) layNodes(level int, cells []cell) ([]cell, api.Errno) {
	var fresh []cell
	for _, l := range part(level, p.room, cells) {
		page, err := p.lay(nodeBytes(level, l))
		if err != api.OK {
			return nil, err
		}
		fresh = append(fresh, cell{key: l[0].key, page: page, count: keysOf(level, l)})
	}
	return fresh, api.OK
}

// crown is the tree whose root has these cells, with nodes above while they do
// not lie in one; a root with a single way down is left out.
func (p *path) crown(level int, cells []cell) (api.Tree, api.Errno) {
	if len(cells) == 0 {
		return api.Tree{}, api.OK
	}
	for ; level == leaf || len(cells) > 1; level++ {
		fresh, err := p.layNodes(level, cells)
		if err != api.OK {
			return api.Tree{}, err
		}
		cells = fresh
	}
	return api.Tree{Root: cells[0].page, Keys: cells[0].count, Depth: level - 1}, api.OK
}
