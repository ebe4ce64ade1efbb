package btree_test

import (
	"fmt"
	"math"
	"math/rand"
	"slices"
	"testing"

	"klaxon/api"
	"klaxon/btree"
	"klaxon/quill"
)

// calls is what the five calls answer of a tree, each as an error; with one,
// all else has to be the zero value.
func calls(t *testing.T, s *store, x api.Tree, k, v string) map[string]api.Errno {
	t.Helper()
	errs := map[string]api.Errno{}
	got, ok, err := btree.Get(s, x, k)
	if errs["Get"] = err; err != api.OK && (got != "" || ok) {
		t.Fatalf("Get of %v: %q, %v beside %d", x, got, ok, err)
	}
	y, l, err := btree.Put(s, x, k, v)
	if errs["Put"] = err; err != api.OK && (y != api.Tree{} || len(l) > 0) {
		t.Fatalf("Put of %v: %v, %v beside %d", x, y, l, err)
	}
	y, l, err = btree.Delete(s, x, k)
	if errs["Delete"] = err; err != api.OK && (y != api.Tree{} || len(l) > 0) {
		t.Fatalf("Delete of %v: %v, %v beside %d", x, y, l, err)
	}
	pairs, err := btree.Scan(s, x, "", "")
	if errs["Scan"] = err; err != api.OK && len(pairs) > 0 {
		t.Fatalf("Scan of %v: %v beside %d", x, pairs, err)
	}
	l, err = btree.Pages(s, x)
	if errs["Pages"] = err; err != api.OK && len(l) > 0 {
		t.Fatalf("Pages of %v: %v beside %d", x, l, err)
	}
	return errs
}

func allTell(t *testing.T, s *store, x api.Tree, want api.Errno, what string) {
	t.Helper()
	for call, err := range calls(t, s, x, "a", "v") {
		if err != want {
			t.Errorf("%s: %s of %v: %d", what, call, x, err)
		}
	}
}

// sample is a tree of some depth, with long values, and its model.
func sample(t *testing.T, count int) (*store, api.Tree, map[string]string) {
	t.Helper()
	s := newStore(api.MinRoom)
	var x api.Tree
	model := map[string]string{}
	for i := range count {
		v := body(i*31%60, i)
		if i%10 == 5 {
			v = body(400+i*17, i)
		}
		model[wide(i)] = v
		x = mustPut(t, s, x, wide(i), v)
	}
	return s, x, model
}

// P5.1: a Root, Keys or Depth that are not the tree's: ErrTree.
func TestWrongTree(t *testing.T) {
	for _, count := range []int{1, 2, 100} {
		s, x, _ := sample(t, count)
		for d := -2; d <= api.MaxDeep+2; d++ {
			if d != x.Depth {
				allTell(t, s, api.Tree{Root: x.Root, Keys: x.Keys, Depth: d}, api.ErrTree, "Depth")
			}
		}
		for _, d := range []int{math.MinInt, math.MaxInt, math.MaxInt32} {
			allTell(t, s, api.Tree{Root: x.Root, Keys: x.Keys, Depth: d}, api.ErrTree, "Depth")
			allTell(t, s, api.Tree{Root: x.Root, Keys: d, Depth: x.Depth}, api.ErrTree, "Keys")
		}
		for _, k := range []int{-1, 0, x.Keys - 1, x.Keys + 1, 2 * x.Keys} {
			allTell(t, s, api.Tree{Root: x.Root, Keys: k, Depth: x.Depth}, api.ErrTree, "Keys")
		}
		for _, r := range []int{0, -1, math.MinInt} {
			allTell(t, s, api.Tree{Root: r, Keys: x.Keys, Depth: x.Depth}, api.ErrTree, "Root")
		}
		for _, n := range mustPages(t, s, x) {
			if n != x.Root {
				allTell(t, s, api.Tree{Root: n, Keys: x.Keys, Depth: x.Depth}, api.ErrTree, "Root")
			}
		}
	}
}

// P5.1: what is no tree by itself is refused ahead of any page; of what may be
// one, Load has the word.
func TestWrongTreeWithoutPages(t *testing.T) {
	s := newStore(api.MinRoom)
	for _, x := range []api.Tree{
		{Root: 9}, {Keys: 1}, {Depth: 1}, {Root: 9, Keys: 1}, {Root: 9, Depth: 1}, {Keys: 1, Depth: 1},
		{Root: 9, Keys: -1, Depth: 1}, {Root: 9, Keys: 1, Depth: -1}, {Root: -9, Keys: 1, Depth: 1},
		{Root: 9, Keys: 1, Depth: api.MaxDeep + 1},
	} {
		allTell(t, s, x, api.ErrTree, "no page")
	}
	if s.loads+s.lays > 0 {
		t.Error("pages were asked for")
	}
	for d := 1; d <= api.MaxDeep; d++ {
		allTell(t, s, api.Tree{Root: 9, Keys: 1 << 30, Depth: d}, api.ErrPage, "a page that is not there")
	}
}

// P5.1: an error that Load or Lay tells is told, at each of their calls; the
// tree is as it was.
func TestFaults(t *testing.T) {
	s, x, model := sample(t, 120)
	long := wide(55) // its value lies in pages of its own
	run := map[string]func(*store) (bool, api.Errno){
		"Get": func(s *store) (bool, api.Errno) {
			v, ok, err := btree.Get(s, x, long)
			return v == "" && !ok, err
		},
		"Put": func(s *store) (bool, api.Errno) {
			y, l, err := btree.Put(s, x, long, body(3000, 1))
			return y == api.Tree{} && len(l) == 0, err
		},
		"Put of a new key": func(s *store) (bool, api.Errno) {
			y, l, err := btree.Put(s, x, "k"+key(55), body(59, 1))
			return y == api.Tree{} && len(l) == 0, err
		},
		"Delete": func(s *store) (bool, api.Errno) {
			y, l, err := btree.Delete(s, x, long)
			return y == api.Tree{} && len(l) == 0, err
		},
		"Scan": func(s *store) (bool, api.Errno) {
			l, err := btree.Scan(s, x, "", "")
			return len(l) == 0, err
		},
		"Pages": func(s *store) (bool, api.Errno) {
			l, err := btree.Pages(s, x)
			return len(l) == 0, err
		},
	}
	for name, call := range run {
		whole := s.copied()
		if _, err := call(whole); err != api.OK {
			t.Fatal(name, err)
		}
		for at := 1; at <= whole.loads+whole.lays; at++ {
			z := s.copied()
			z.failAt, z.fault = at, api.Errno(1000+at)
			if zero, err := call(z); err != z.fault || !zero {
				t.Fatalf("%s: the fault of call %d is %d: %d", name, at, z.fault, err)
			}
			z.failAt = 0
			hasAll(t, z, x, model)
		}
	}
}

// P5.1, P5.3: faults while nodes are parted and joined, till the tree is empty.
func TestFaultsWhileJoining(t *testing.T) {
	s := newStore(api.MinRoom)
	var x api.Tree
	model := map[string]string{}
	for i := range 40 {
		model[wide(i)] = text(50)
		x = tryAll(t, s, model, func(z *store) (api.Tree, api.Errno) {
			y, _, err := btree.Put(z, x, wide(i), text(50))
			return y, err
		})
	}
	for i := range 40 {
		j := i * 17 % 40
		delete(model, wide(j))
		x = tryAll(t, s, model, func(z *store) (api.Tree, api.Errno) {
			y, _, err := btree.Delete(z, x, wide(j))
			return y, err
		})
	}
}

// tryAll lets the call fail at each place, and then be.
func tryAll(t *testing.T, s *store, model map[string]string, call func(*store) (api.Tree, api.Errno)) api.Tree {
	t.Helper()
	for at := 1; ; at++ {
		z := s.copied()
		z.failAt, z.fault = at, api.ErrDead
		y, err := call(z)
		if z.loads+z.lays < at {
			*s = *z
			s.failAt = 0
			hasAll(t, s, y, model)
			return y
		}
		if y != (api.Tree{}) || err != api.ErrDead {
			t.Fatal(at, y, err)
		}
	}
}

// P5.1: a tree of which a page has other bytes: ErrTree, or what those bytes
// lead Load to tell; never a panic, never for ever.
func TestWrongPages(t *testing.T) {
	s, x, model := sample(t, 60)
	r := rand.New(rand.NewSource(5))
	for _, n := range mustPages(t, s, x) {
		p := s.pages[n]
		noise := make([]byte, len(p))
		r.Read(noise)
		for what, b := range map[string][]byte{
			"no bytes": {}, "one byte 0": {0}, "zeros": make([]byte, len(p)),
			"all bits":    slices.Repeat([]byte{255}, len(p)),
			"noise":       noise,
			"a byte less": p[:len(p)-1], "a byte more": append(slices.Clone(p), 0),
			"twice itself": append(slices.Clone(p), p...),
		} {
			z := s.copied()
			z.pages[n] = b
			errs := calls(t, z, x, wide(5), "v")
			for _, call := range []string{"Scan", "Pages"} {
				// What stands in place of a piece may name a page that is not there.
				isPiece := p[0] >= 0x80 && errs[call] == api.ErrPage
				if errs[call] != api.ErrTree && !isPiece {
					t.Errorf("page %d is %s: %s: %d", n, what, call, errs[call])
				}
			}
		}
		// One that is not there.
		z := s.copied()
		delete(z.pages, n)
		if _, err := btree.Scan(z, x, "", ""); err != api.ErrPage {
			t.Errorf("page %d is not there: %d", n, err)
		}
		hasAll(t, s, x, model)
	}
}

// P5.1: pages that stand in each other's place, so that they name themselves
// and each other.
func TestPagesSwapped(t *testing.T) {
	s, x, _ := sample(t, 60)
	pages := mustPages(t, s, x)
	for _, a := range pages {
		for _, b := range pages {
			if a == b {
				continue
			}
			z := s.copied()
			z.pages[a], z.pages[b] = z.pages[b], z.pages[a]
			if _, err := btree.Scan(z, x, "", ""); err != api.ErrTree {
				t.Fatalf("pages %d and %d swapped: %d", a, b, err)
			}
			z.pages[a] = z.pages[b]
			if _, err := btree.Pages(z, x); err != api.ErrTree {
				t.Fatalf("page %d in place of %d: %d", b, a, err)
			}
		}
	}
}

// P5.1: any byte of any page changed: all calls end.
func TestAnyByte(t *testing.T) {
	s, x, _ := sample(t, 25)
	for _, n := range mustPages(t, s, x) {
		for i := range s.pages[n] {
			for _, flip := range []byte{1, 0x80, 0xff} {
				z := newStore(s.room)
				z.pages, z.laid = s.pages, make([]int, 1000)
				was := s.pages[n]
				s.pages[n] = slices.Clone(was)
				s.pages[n][i] ^= flip
				calls(t, z, x, wide(15), text(70))
				s.pages[n] = was
				for _, l := range z.laid[1000:] {
					delete(s.pages, l)
				}
			}
		}
	}
}

// cellOf is a cell as the package lays it: a key, a page, and a count of keys or
// bytes; page 0 has a value behind it.
func cellOf(k string, page, count uint64) []byte {
	return quill.Number(quill.Text(nil, k), page, count)
}

func shortCell(k, v string) []byte { return quill.Text(quill.Number(quill.Text(nil, k), 0), v) }

func nodeOf(level uint64, cells ...[]byte) []byte {
	b := quill.Number(nil, level)
	for _, c := range cells {
		b = append(b, c...)
	}
	return b
}

func pieceOf(next uint64, v string) []byte {
	b := make([]byte, 8)
	for i := range b {
		b[7-i] = byte(next >> (8 * i))
	}
	b[0] |= 0x80
	return append(b, v...)
}

// crafted is a store of these pages, from 1 on.
func crafted(pages ...[]byte) *store {
	s := newStore(api.MinRoom)
	for i, p := range pages {
		s.pages[i+1] = p
	}
	s.laid = make([]int, 100)
	return s
}

// P5.1: pages that read well, one by one, and are no tree.
func TestCraftedPages(t *testing.T) {
	a, b := nodeOf(1, shortCell("a", "1")), nodeOf(1, shortCell("b", "2"))
	good := crafted(nodeOf(2, cellOf("a", 2, 1), cellOf("b", 3, 1)), a, b)
	allTell(t, good, api.Tree{Root: 1, Keys: 2, Depth: 2}, api.OK, "a good tree")
	whole := text(472)
	allTell(t, crafted(nodeOf(1, cellOf("a", 2, 473)), pieceOf(3, whole), pieceOf(0, "v")), api.Tree{Root: 1, Keys: 1, Depth: 1}, api.OK, "a good value")
	for what, c := range map[string]struct {
		s *store
		x api.Tree
	}{
		"no cell":                      {crafted(nodeOf(1)), api.Tree{Root: 1, Keys: 1, Depth: 1}},
		"an empty key":                 {crafted(nodeOf(1, shortCell("", "1"))), api.Tree{Root: 1, Keys: 1, Depth: 1}},
		"a long key":                   {crafted(nodeOf(1, shortCell(wide(1)+"x", "1"))), api.Tree{Root: 1, Keys: 1, Depth: 1}},
		"a key twice":                  {crafted(nodeOf(1, shortCell("a", "1"), shortCell("a", "2"))), api.Tree{Root: 1, Keys: 2, Depth: 1}},
		"falling keys":                 {crafted(nodeOf(1, shortCell("b", "1"), shortCell("a", "2"))), api.Tree{Root: 1, Keys: 2, Depth: 1}},
		"a short value too long":       {crafted(nodeOf(1, shortCell("a", text(60)))), api.Tree{Root: 1, Keys: 1, Depth: 1}},
		"one way down":                 {crafted(nodeOf(2, cellOf("a", 2, 1)), a), api.Tree{Root: 1, Keys: 1, Depth: 2}},
		"itself below":                 {crafted(nodeOf(2, cellOf("a", 1, 1), cellOf("b", 1, 1))), api.Tree{Root: 1, Keys: 2, Depth: 2}},
		"itself below, at any depth":   {crafted(nodeOf(64, cellOf("a", 1, 1<<31-1), cellOf("b", 1, 1<<31-1))), api.Tree{Root: 1, Keys: 1<<32 - 2, Depth: 64}},
		"a value as a node":            {crafted(nodeOf(2, shortCell("a", "1"), shortCell("b", "1"))), api.Tree{Root: 1, Keys: 2, Depth: 2}},
		"a page of another level":      {crafted(nodeOf(2, shortCell("a", "1"))), api.Tree{Root: 1, Keys: 1, Depth: 1}},
		"a value above all pages":      {crafted(nodeOf(1, cellOf("a", 1<<63+2, 60)), pieceOf(0, text(60))), api.Tree{Root: 1, Keys: 1, Depth: 1}},
		"a value above MaxValue":       {crafted(tooLong()...), api.Tree{Root: 1, Keys: 1, Depth: 1}},
		"no keys below":                {crafted(nodeOf(2, cellOf("a", 2, 0), cellOf("b", 3, 2)), a, b), api.Tree{Root: 1, Keys: 2, Depth: 2}},
		"too many keys below":          {crafted(nodeOf(2, cellOf("a", 2, 1<<63), cellOf("b", 3, 1<<63)), a, b), api.Tree{Root: 1, Keys: 2, Depth: 2}},
		"a page above all":             {crafted(nodeOf(2, cellOf("a", 1<<63, 1), cellOf("b", 3, 1)), a, b), api.Tree{Root: 1, Keys: 2, Depth: 2}},
		"fewer keys than ways":         {crafted(nodeOf(3, cellOf("a", 2, 1), cellOf("b", 3, 1)), a, b), api.Tree{Root: 1, Keys: 2, Depth: 3}},
		"another level below":          {crafted(nodeOf(3, cellOf("a", 2, 2), cellOf("b", 3, 2)), a, b), api.Tree{Root: 1, Keys: 4, Depth: 3}},
		"a value of no bytes":          {crafted(nodeOf(1, cellOf("a", 2, 0)), pieceOf(0, "")), api.Tree{Root: 1, Keys: 1, Depth: 1}},
		"a long value too short":       {crafted(nodeOf(1, cellOf("a", 2, 59)), pieceOf(0, text(59))), api.Tree{Root: 1, Keys: 1, Depth: 1}},
		"a long value too long":        {crafted(nodeOf(1, cellOf("a", 2, 16385)), pieceOf(2, whole)), api.Tree{Root: 1, Keys: 1, Depth: 1}},
		"pieces in a circle":           {crafted(nodeOf(1, cellOf("a", 2, 16384)), pieceOf(3, whole), pieceOf(2, whole)), api.Tree{Root: 1, Keys: 1, Depth: 1}},
		"a piece that is its node":     {crafted(nodeOf(1, cellOf("a", 1, 60))), api.Tree{Root: 1, Keys: 1, Depth: 1}},
		"a piece too few":              {crafted(nodeOf(1, cellOf("a", 2, 473)), pieceOf(0, whole)), api.Tree{Root: 1, Keys: 1, Depth: 1}},
		"a piece too many":             {crafted(nodeOf(1, cellOf("a", 2, 472)), pieceOf(3, whole), pieceOf(0, "v")), api.Tree{Root: 1, Keys: 1, Depth: 1}},
		"a piece too short":            {crafted(nodeOf(1, cellOf("a", 2, 473)), pieceOf(3, text(471)), pieceOf(0, "vv")), api.Tree{Root: 1, Keys: 1, Depth: 1}},
		"a piece without its bit":      {crafted(nodeOf(1, cellOf("a", 2, 60)), append(make([]byte, 8), text(60)...)), api.Tree{Root: 1, Keys: 1, Depth: 1}},
		"a page with too many bytes":   {crafted(nodeOf(1, slices.Concat(manyCells(40)...))), api.Tree{Root: 1, Keys: 40, Depth: 1}},
		"a number that is written so?": {crafted(append([]byte{0x80}, a...)), api.Tree{Root: 1, Keys: 1, Depth: 1}},
	} {
		allTell(t, c.s, c.x, api.ErrTree, what)
	}
}

// tooLong is a leaf, and all pieces of a value of one byte above MaxValue.
func tooLong() [][]byte {
	pages := [][]byte{nodeOf(1, cellOf("a", 2, api.MaxValue+1))}
	rest := api.MaxValue + 1
	for ; rest > 472; rest -= 472 {
		pages = append(pages, pieceOf(uint64(len(pages)+2), text(472)))
	}
	return append(pages, pieceOf(0, text(rest)))
}

func manyCells(count int) [][]byte {
	var l [][]byte
	for i := range count {
		l = append(l, shortCell(fmt.Sprintf("a%03d", i), text(10)))
	}
	return l
}

// P5.1: trees in which only a walk through all of them meets what is wrong.
func TestCraftedTrees(t *testing.T) {
	leafOf := func(keys ...string) []byte {
		var cells [][]byte
		for _, k := range keys {
			cells = append(cells, shortCell(k, "1"))
		}
		return nodeOf(1, cells...)
	}
	above := nodeOf(2, cellOf("a", 2, 2), cellOf("m", 3, 2))
	whole := text(472)
	for what, s := range map[string]*store{
		"a leaf twice":           crafted(nodeOf(2, cellOf("a", 2, 2), cellOf("m", 2, 2)), leafOf("a", "b")),
		"another lowest key":     crafted(above, leafOf("b", "c"), leafOf("m", "n")),
		"a key of the next leaf": crafted(above, leafOf("a", "m"), leafOf("m", "n")),
		"a key behind it":        crafted(above, leafOf("a", "z"), leafOf("m", "n")),
		"fewer keys":             crafted(above, leafOf("a"), leafOf("m", "n", "o")),
		"more keys":              crafted(above, leafOf("a", "b", "c"), leafOf("m", "n")),
		"a piece of two values":  crafted(above, nodeOf(1, cellOf("a", 4, 473), cellOf("b", 5, 473)), leafOf("m", "n"), pieceOf(6, whole), pieceOf(6, whole), pieceOf(0, "v")),
		"a node as a piece":      crafted(above, nodeOf(1, cellOf("a", 3, 60), shortCell("b", "")), leafOf("m", "n")),
	} {
		x := api.Tree{Root: 1, Keys: 4, Depth: 2}
		errs := calls(t, s, x, "a", text(70))
		if errs["Scan"] != api.ErrTree || errs["Pages"] != api.ErrTree {
			t.Errorf("%s: %v", what, errs)
		}
	}
}

// P5.1: a way down of MaxDeep nodes, each of which is sound, but of which there
// are too few keys for it: no tree comes to be that is deeper than may be.
func TestTooDeep(t *testing.T) {
	pages := [][]byte{nodeOf(1, shortCell("a", ""))}
	for level := 2; level <= api.MaxDeep; level++ {
		pages = append(pages, nodeOf(uint64(level), cellOf("a", uint64(level-1), uint64(level-1)), cellOf(fmt.Sprintf("b%02d", level), 1000, 1)))
	}
	for depth := 3; depth <= api.MaxDeep; depth++ {
		errs := calls(t, crafted(pages...), api.Tree{Root: depth, Keys: depth, Depth: depth}, "a", "v")
		if errs["Get"] != api.ErrTree || errs["Put"] != api.ErrTree || errs["Delete"] != api.ErrTree {
			t.Fatal(depth, errs)
		}
	}
}

// P5.1: pages of noise that begin as nodes do.
func TestNoise(t *testing.T) {
	r := rand.New(rand.NewSource(7))
	for range 20000 {
		s := newStore(api.MinRoom)
		s.laid = make([]int, 100)
		for n := range 4 {
			var cells [][]byte
			for i := range r.Intn(4) {
				k := string(rune('a' + i))
				switch r.Intn(4) {
				case 0:
					cells = append(cells, shortCell(k, text(r.Intn(70))))
				case 1:
					noise := make([]byte, r.Intn(5))
					r.Read(noise)
					cells = append(cells, noise)
				default:
					cells = append(cells, cellOf(k, uint64(r.Intn(5)), uint64(r.Intn(100))))
				}
			}
			s.pages[n+1] = nodeOf(uint64(1+r.Intn(3)), cells...)
			if r.Intn(3) == 0 {
				s.pages[n+1] = pieceOf(uint64(r.Intn(5)), text(r.Intn(100)))
			}
		}
		calls(t, s, api.Tree{Root: 1 + r.Intn(4), Keys: r.Intn(6), Depth: r.Intn(4)}, "b", text(r.Intn(90)))
	}
}

// P5.1: a Lay that tells a page that cannot be is not believed.
func TestLayTellsNoPage(t *testing.T) {
	s := newStore(api.MinRoom)
	s.step = -1
	s.laid = make([]int, 5)
	if x, l, err := btree.Put(s, api.Tree{}, "a", "1"); x != (api.Tree{}) || len(l) > 0 || err != api.ErrTree {
		t.Error(x, l, err)
	}
}
