package btree

import (
	"math"
	"slices"
	"strings"

	"klaxon/api"
	"klaxon/quill"
)

const (
	leaf = 1 // the level of the nodes that have the values

	// A node with less than one such part of its bytes is joined with another.
	slimPart = 4

	// No tree within the document's bound has more keys; so that sums of them
	// never wrap round.
	maxKeys = math.MaxInt32
)

// cell is an entry of a node. Above the leaves, page is the node below, and
// count how many keys lie there. In a leaf, a short value stands in the cell,
// and page is 0; a long one begins at page, and has count bytes.
type cell struct {
	key   string
	value string
	page  int
	count int
}

func appendCell(b []byte, c cell) []byte {
	b = quill.Number(quill.Text(b, c.key), uint64(c.page))
	if c.page == 0 {
		return quill.Text(b, c.value)
	}
	return quill.Number(b, uint64(c.count))
}

func readCell(s *quill.Strip) (cell, bool) {
	c := cell{key: s.Text(api.MaxKey)}
	page, count := s.Number(), uint64(0)
	if page == 0 {
		c.value = s.Text(api.MaxValue)
	} else {
		count = s.Number()
	}
	err, _ := s.Bad()
	if err != api.OK || c.key == "" || page > math.MaxInt || count > maxKeys {
		return cell{}, false
	}
	c.page, c.count = int(page), int(count)
	return c, true
}

func nodeBytes(level int, cells []cell) []byte {
	b := quill.Number(nil, uint64(level))
	for _, c := range cells {
		b = appendCell(b, c)
	}
	return b
}

// nodeCells is the cells of a node, if the bytes are one of that level.
func nodeCells(level int, p []byte) ([]cell, bool) {
	s := quill.Unroll(p)
	if s.Number() != uint64(level) {
		return nil, false
	}
	var cells []cell
	for s.More() > 0 {
		c, ok := readCell(s)
		if !ok {
			return nil, false
		}
		cells = append(cells, c)
	}
	return cells, true
}

// rising tells whether each key is above the one ahead of it.
func rising(cells []cell) bool {
	for i := 1; i < len(cells); i++ {
		if cells[i-1].key >= cells[i].key {
			return false
		}
	}
	return true
}

// keysOf is how many keys lie in a node and below it.
func keysOf(level int, cells []cell) int {
	if level == leaf {
		return len(cells)
	}
	sum := 0
	for _, c := range cells {
		sum += c.count
	}
	return sum
}

// seek is the place of the key among the cells, or where it would be.
func seek(cells []cell, key string) (int, bool) {
	return slices.BinarySearchFunc(cells, key, func(c cell, key string) int {
		return strings.Compare(c.key, key)
	})
}

// part is the cells in as many nodes as they need, of as even sizes as may be.
func part(level, room int, cells []cell) [][]cell {
	if len(cells) < 2 || len(nodeBytes(level, cells)) <= room {
		return [][]cell{cells}
	}
	i := middle(cells)
	return append(part(level, room, cells[:i]), part(level, room, cells[i:])...)
}

// middle is the place that leaves as many bytes ahead of it as behind it, as
// nearly as may be; both sides have a cell.
func middle(cells []cell) int {
	ends := make([]int, len(cells))
	sum := 0
	for i, c := range cells {
		sum += len(appendCell(nil, c))
		ends[i] = sum
	}
	best := 1
	for i := 2; i < len(cells); i++ {
		if uneven(ends[i-1], sum) < uneven(ends[best-1], sum) {
			best = i
		}
	}
	return best
}

func uneven(ahead, sum int) int {
	return max(ahead, sum-ahead)
}
