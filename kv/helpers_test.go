package kv_test

import (
	"bytes"
	"fmt"
	"maps"
	"math"
	"slices"
	"strings"
	"testing"

	"klaxon/api"
	"klaxon/btree"
	"klaxon/disk"
	"klaxon/kv"
	"klaxon/meta"
	"klaxon/page"
)

// Pages of most tests: 8 sectors of 64 bytes, which is the least that has room
// for a node.
const (
	size = 64
	per  = 8
)

// name is a key of a bucket.
type name struct{ bucket, key string }

// books is what a DB has, or should have.
type books map[name]string

func blank(t *testing.T, pages int) *disk.Disk {
	t.Helper()
	d, err := disk.New(pages*per, size)
	isErr(t, "New", err, api.OK)
	return d
}

// fresh is a DB on a disk of so many pages, with nothing in it.
func fresh(t *testing.T, pages int) (*disk.Disk, *kv.DB) {
	t.Helper()
	d := blank(t, pages)
	isErr(t, "Format", kv.Format(d, per), api.OK)
	return d, opened(t, d)
}

func opened(t *testing.T, d *disk.Disk) *kv.DB {
	t.Helper()
	db, err := kv.Open(d, per)
	if err != api.OK || db == nil {
		t.Fatalf("Open: %v, error %d", db, err)
	}
	return db
}

func begun(t *testing.T, db *kv.DB) *kv.Tx {
	t.Helper()
	tx, err := db.Begin()
	if err != api.OK || tx == nil {
		t.Fatalf("Begin: %v, error %d", tx, err)
	}
	return tx
}

func viewed(t *testing.T, db *kv.DB) *kv.Tx {
	t.Helper()
	tx, err := db.View()
	if err != api.OK || tx == nil {
		t.Fatalf("View: %v, error %d", tx, err)
	}
	return tx
}

// puts has a transaction put all of b, and tells what Commit answers.
func puts(t *testing.T, db *kv.DB, b books) api.Errno {
	t.Helper()
	tx := begun(t, db)
	for n, value := range b {
		isErr(t, "Put", tx.Put(n.bucket, n.key, value), api.OK)
	}
	return tx.Commit()
}

// committed has a transaction put all of b.
func committed(t *testing.T, db *kv.DB, b books) {
	t.Helper()
	isErr(t, "Commit", puts(t, db, b), api.OK)
}

func isErr(t *testing.T, what string, got, want api.Errno) {
	t.Helper()
	if got != want {
		t.Fatalf("%s: error %d, want %d", what, got, want)
	}
}

// sees holds that a transaction has just the pairs of want in these buckets, by
// Scan and by Get.
func sees(t *testing.T, what string, tx *kv.Tx, want books, buckets ...string) {
	t.Helper()
	for n := range want {
		if !slices.Contains(buckets, n.bucket) {
			t.Fatalf("%s: the test does not look into bucket %s", what, n.bucket)
		}
	}
	for _, bucket := range buckets {
		l, err := tx.Scan(bucket, "", "", math.MaxInt)
		if wanted := want.pairs(bucket); err != api.OK || !slices.Equal(l, wanted) {
			t.Fatalf("%s: Scan(%s): %.300q, error %d, want %.300q", what, bucket, l, err, wanted)
		}
	}
	for n, value := range want {
		if v, ok, err := tx.Get(n.bucket, n.key); v != value || !ok || err != api.OK {
			t.Fatalf("%s: Get(%q): %.50q %v, error %d, want %.50q", what, n, v, ok, err, value)
		}
	}
}

// has holds that a new View of the DB sees just the pairs of want.
func has(t *testing.T, what string, db *kv.DB, want books, buckets ...string) {
	t.Helper()
	v := viewed(t, db)
	sees(t, what, v, want, buckets...)
	isErr(t, what, v.Abort(), api.OK)
	if db.Keys() != len(want) {
		t.Fatalf("%s: %d keys, want %d", what, db.Keys(), len(want))
	}
}

func (b books) pairs(bucket string) []api.Pair {
	var l []api.Pair
	for n, value := range b {
		if n.bucket == bucket {
			l = append(l, api.Pair{Key: n.key, Value: value})
		}
	}
	slices.SortFunc(l, func(a, b api.Pair) int { return strings.Compare(a.Key, b.Key) })
	return l
}

// with is b and what is in c, which goes over it.
func (b books) with(c books) books {
	all := maps.Clone(b)
	maps.Copy(all, c)
	return all
}

// nodes reads a tree's pages as chapter 6 says that they lie on the disk.
type nodes struct{ d *disk.Disk }

func (n nodes) Room() int                   { return page.Room(per * size) }
func (n nodes) Lay([]byte) (int, api.Errno) { return 0, api.ErrFull }
func (n nodes) Load(id int) ([]byte, api.Errno) {
	x, err := page.Read(n.d, per, id)
	if x.Kind != 'T' {
		return nil, api.ErrPage
	}
	return x.Load, err
}

// laying lays each page behind the one ahead of it.
type laying struct {
	nodes
	last *int
}

func (l laying) Lay(p []byte) (int, api.Errno) {
	*l.last++
	return *l.last, page.Write(l.d, per, api.Page{Kind: 'T', Id: uint32(*l.last), Load: p})
}

// standing is the meta of the disk, and its tree's pages.
func standing(t *testing.T, d *disk.Disk) (api.Meta, []int) {
	t.Helper()
	m, err := meta.Best(d, per)
	isErr(t, "Best", err, api.OK)
	l, err := btree.Pages(nodes{d}, tree(m))
	isErr(t, "Pages", err, api.OK)
	return m, l
}

func tree(m api.Meta) api.Tree {
	return api.Tree{Root: m.Root, Keys: m.Keys, Depth: m.Depth}
}

// balanced holds that all pages are free, or the tree's, or the metas' (P6.10),
// and that the DB and the disk tell the same.
func balanced(t *testing.T, what string, d *disk.Disk, db *kv.DB) {
	t.Helper()
	m, l := standing(t, d)
	if db.Free()+len(l)+2 != d.Sectors()/per {
		t.Fatalf("%s: %d pages are free, the tree uses %v", what, db.Free(), l)
	}
	if db.Seq() != m.Seq || db.Keys() != m.Keys {
		t.Fatalf("%s: Seq %d, Keys %d; on the disk %v", what, db.Seq(), db.Keys(), m)
	}
}

// image is all bytes of the disk.
func image(t *testing.T, d *disk.Disk) []byte {
	t.Helper()
	var b bytes.Buffer
	for n := range d.Sectors() {
		s, err := d.Read(n)
		isErr(t, "Read", err, api.OK)
		b.Write(s)
	}
	return b.Bytes()
}

// numbered is n keys with the same value.
func numbered(bucket string, n int, value string) books {
	b := books{}
	for i := range n {
		b[name{bucket, fmt.Sprintf("%03d", i)}] = value
	}
	return b
}
