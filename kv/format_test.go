package kv_test

import (
	"bytes"
	"math"
	"testing"

	"klaxon/api"
	"klaxon/btree"
	"klaxon/disk"
	"klaxon/kv"
	"klaxon/meta"
	"klaxon/page"
)

// P6.2, P6.3: ErrNone, then ErrArg: too few pages, too little room, no pages at
// all; the power that is off comes behind it.
func TestWhichDisks(t *testing.T) {
	for _, c := range []struct {
		sectors, size, per int
		want               api.Errno
	}{
		{3, 491, 1, api.OK},          // FirstPage + 1 pages with room for MinRoom bytes
		{2, 491, 1, api.ErrArg},      // one page less
		{3, 490, 1, api.ErrArg},      // one byte less
		{24, 64, 8, api.OK},          //
		{23, 64, 8, api.ErrArg},      // the last page is not whole
		{31, 64, 8, api.OK},          // with sectors of no page
		{400, 64, 7, api.ErrArg},     // 448 bytes a page
		{65536, 64, 8, api.OK},       // 8192 pages
		{65536, 64, 128, api.OK},     // MaxPage bytes a page
		{65536, 64, 129, api.ErrArg}, // more
		{24, 1024, 8, api.OK},        //
		{24, 1024, 9, api.ErrArg},    //
		{16384 + 1, 512, 1, api.OK},  // more sectors than MaxPages
		{400, 64, 0, api.ErrArg},
		{400, 64, -8, api.ErrArg},
		{400, 64, math.MinInt, api.ErrArg},
		{400, 64, math.MaxInt, api.ErrArg},
		{400, 64, math.MaxInt/64 + 2, api.ErrArg},
	} {
		d, err := disk.New(c.sectors, c.size)
		isErr(t, "New", err, api.OK)
		if got := kv.Format(d, c.per); got != c.want {
			t.Errorf("Format(%d of %d, %d): error %d, want %d", c.sectors, c.size, c.per, got, c.want)
		}
		if c.want != api.OK && d.Ops() != 0 {
			t.Errorf("Format(%d of %d, %d) was refused behind %d operations", c.sectors, c.size, c.per, d.Ops())
		}
		ops := d.Ops()
		db, got := kv.Open(d, c.per)
		if got != c.want || (db != nil) != (got == api.OK) {
			t.Errorf("Open(%d of %d, %d): error %d, want %d", c.sectors, c.size, c.per, got, c.want)
		}
		if db != nil && db.Free() != min(c.sectors/c.per, api.MaxPages)-2 {
			t.Errorf("Open(%d of %d, %d): %d free", c.sectors, c.size, c.per, db.Free())
		}
		if d.Ops() != ops {
			t.Errorf("Open wrote")
		}
		d.Arm(0)
		d.Sync()
		if c.want == api.OK {
			c.want = api.ErrDead
		}
		isErr(t, "Format without power", kv.Format(d, c.per), c.want)
		_, got = kv.Open(d, c.per)
		isErr(t, "Open without power", got, c.want)
	}
	isErr(t, "Format(nil)", kv.Format(nil, 0), api.ErrNone)
	if db, err := kv.Open(nil, 0); db != nil || err != api.ErrNone {
		t.Errorf("Open(nil): %v, error %d", db, err)
	}
}

// P6.2: the first sectors of pages 0 and 1 are cleared, that is synced, then
// the meta is written and synced: 5 operations, and all else stays as it was.
func TestFormatWrites(t *testing.T) {
	d := blank(t, 4)
	for n := range d.Sectors() {
		isErr(t, "Write", d.Write(n, bytes.Repeat([]byte{0xee}, size)), api.OK)
	}
	isErr(t, "Sync", d.Sync(), api.OK)
	want := image(t, d)
	clear(want[:size])
	clear(want[per*size : (per+1)*size])
	copy(want[per*size:], meta.Put(api.Meta{Seq: 1}))
	ops := d.Ops()
	isErr(t, "Format", kv.Format(d, per), api.OK)
	if got := image(t, d); !bytes.Equal(got, want) {
		t.Errorf("the disk is %x, want %x", got, want)
	}
	if d.Ops() != ops+5 || len(d.Unsafe()) > 0 {
		t.Errorf("%d operations, %v unsafe", d.Ops()-ops, d.Unsafe())
	}
}

// P6.2: the power off at each operation of Format is told. Behind it there is
// no meta, or one of those that were there, or the new one; once the first Sync
// was OK, none of those that were there.
func TestFormatWithoutPower(t *testing.T) {
	for after := range 5 {
		for _, keep := range [][]int{nil, {0}, {per}, {0, per}} {
			d, db := fresh(t, 6)
			committed(t, db, books{{"a", "k"}: "1"})
			d.Arm(after)
			isErr(t, "Format", kv.Format(d, per), api.ErrDead)
			d.Crash(keep)
			m, err := meta.Best(d, per)
			switch {
			case after < 3 && (err == api.ErrMeta || m.Seq <= 2):
			case after >= 3 && (err == api.ErrMeta || m == api.Meta{Seq: 1}):
			default:
				t.Errorf("behind %d operations, %v kept: %v, error %d", after, keep, m, err)
			}
		}
	}
}

// P6.2: what was there is gone, whatever the Seqs of its metas were.
func TestFormatAgain(t *testing.T) {
	d, db := fresh(t, 12)
	for i := range 7 {
		committed(t, db, numbered("a", i, "old"))
		isErr(t, "Format", kv.Format(d, per), api.OK)
		db = opened(t, d)
		if db.Seq() != 1 || db.Free() != 10 {
			t.Fatalf("Seq %d, %d free", db.Seq(), db.Free())
		}
		has(t, "formatted", db, books{}, "a")
		committed(t, db, numbered("a", i+3, "new"))
		has(t, "formatted", db, numbered("a", i+3, "new"), "a")
		balanced(t, "formatted", d, db)
		committed(t, db, numbered("b", i, "more"))
	}
}

// P6.3: a disk that was never formatted has no meta.
func TestOpenOfNoMeta(t *testing.T) {
	d := blank(t, 4)
	if db, err := kv.Open(d, per); db != nil || err != api.ErrMeta {
		t.Errorf("Open: %v, error %d", db, err)
	}
	if d.Ops() != 0 {
		t.Error("Open wrote")
	}
}

// P6.3: each page of the tree that is spoiled, in each of its sectors, is
// ErrTree; other pages have no part.
func TestOpenOfSpoiledPages(t *testing.T) {
	d, db := fresh(t, 40)
	all := numbered("a", 20, string(bytes.Repeat([]byte("v"), 60))).with(books{{"b", "long"}: string(make([]byte, 3000))})
	committed(t, db, all)
	_, used := standing(t, d)
	if len(used) < 8 {
		t.Fatalf("a tree of %v is too small for this test", used)
	}
	of := map[int]bool{}
	for _, id := range used {
		of[id] = true
	}
	for sector := 2 * per; sector < d.Sectors(); sector++ {
		was, err := d.Read(sector)
		isErr(t, "Read", err, api.OK)
		want := api.OK
		if of[sector/per] {
			want = api.ErrTree
		}
		d.Write(sector, was[:size-1], []byte{was[size-1] ^ 1})
		db, err := kv.Open(d, per)
		if err != want || (db != nil) != (want == api.OK) {
			t.Errorf("sector %d spoiled: %v, error %d, want %d", sector, db, err, want)
		}
		d.Write(sector, was)
	}
	has(t, "mended", opened(t, d), all, "a", "b")
}

// P6.1, P6.3: pages that are whole, but of another Kind, or of another place,
// or the metas', are none of a tree.
func TestOpenOfOtherPages(t *testing.T) {
	source, db := fresh(t, 4)
	committed(t, db, books{{"a", "k"}: "1"})
	m, l := standing(t, source)
	root, err := page.Read(source, per, l[0])
	isErr(t, "Read", err, api.OK)
	for _, c := range []struct {
		what string
		kind byte
		id   int
		meta api.Meta
		want api.Errno
	}{
		{"as it was", 'T', 2, api.Meta{Seq: 4, Root: 2, Keys: 1, Depth: 1}, api.OK},
		{"at another place", 'T', 3, api.Meta{Seq: 4, Root: 3, Keys: 1, Depth: 1}, api.OK},
		{"of another Kind", 't', 2, api.Meta{Seq: 4, Root: 2, Keys: 1, Depth: 1}, api.ErrTree},
		{"of Kind 1", 1, 2, api.Meta{Seq: 4, Root: 2, Keys: 1, Depth: 1}, api.ErrTree},
		{"where none is", 'T', 2, api.Meta{Seq: 4, Root: 3, Keys: 1, Depth: 1}, api.ErrTree},
		{"at page 1", 'T', 1, api.Meta{Seq: 4, Root: 1, Keys: 1, Depth: 1}, api.ErrTree},
		{"at the meta's own page", 'T', 2, api.Meta{Seq: 4, Root: 0, Keys: 1, Depth: 1}, api.ErrTree},
		{"past the last page", 'T', 2, api.Meta{Seq: 4, Root: 4, Keys: 1, Depth: 1}, api.ErrTree},
		{"far past the last page", 'T', 2, api.Meta{Seq: 4, Root: 16384, Keys: 1, Depth: 1}, api.ErrTree},
		{"with another count", 'T', 2, api.Meta{Seq: 4, Root: 2, Keys: 2, Depth: 1}, api.ErrTree},
		{"with another depth", 'T', 2, api.Meta{Seq: 4, Root: 2, Keys: 1, Depth: 2}, api.ErrTree},
		{"with no root", 'T', 2, api.Meta{Seq: 4, Keys: 1}, api.ErrTree},
		{"empty", 'T', 2, api.Meta{Seq: 4}, api.OK},
	} {
		d := blank(t, 4)
		isErr(t, "Write", page.Write(d, per, api.Page{Kind: c.kind, Id: uint32(c.id), Load: root.Load}), api.OK)
		isErr(t, "Write", meta.Write(d, per, c.meta), api.OK)
		db, err := kv.Open(d, per)
		if err != c.want || (db != nil) != (err == api.OK) {
			t.Errorf("a root %s: %v, error %d, want %d", c.what, db, err, c.want)
		}
	}
	if m.Seq != 2 || m.Keys != 1 {
		t.Errorf("the meta is %v", m)
	}
}

// P6.1: in the tree a key is the bucket's name, bytes 0 up to 8 bytes, and the
// key; pages 0 and 1 have the metas in turn.
func TestKeysInTheTree(t *testing.T) {
	d, db := fresh(t, 12)
	committed(t, db, books{{"a", "k"}: "1", {"ab", ""}: "2", {"abcdefgh", "\x00\xff"}: "3", {"a", "\x00b"}: "4"})
	m, _ := standing(t, d)
	pairs, err := btree.Scan(nodes{d}, tree(m), "", "")
	isErr(t, "Scan", err, api.OK)
	want := []api.Pair{
		{Key: "a\x00\x00\x00\x00\x00\x00\x00\x00b", Value: "4"},
		{Key: "a\x00\x00\x00\x00\x00\x00\x00k", Value: "1"},
		{Key: "ab\x00\x00\x00\x00\x00\x00", Value: "2"},
		{Key: "abcdefgh\x00\xff", Value: "3"},
	}
	if len(pairs) != len(want) {
		t.Fatalf("the tree has %q", pairs)
	}
	for i, p := range pairs {
		if p != want[i] {
			t.Errorf("the tree has %q, want %q", p, want[i])
		}
	}
	for seq := uint64(3); seq < 9; seq++ {
		committed(t, db, books{{"a", "k"}: "again"})
		s, err := d.Read(int(seq) % 2 * per)
		isErr(t, "Read", err, api.OK)
		if m, err := meta.Get(s); err != api.OK || m.Seq != seq || m.Seq != db.Seq() {
			t.Errorf("page %d has %v, error %d, want Seq %d", seq%2, m, err, seq)
		}
	}
}
