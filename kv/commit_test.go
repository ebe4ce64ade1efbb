package kv_test

import (
	"bytes"
	"fmt"
	"maps"
	"math"
	"slices"
	"strings"
	"testing"

	"klaxon/api"
	"klaxon/btree"
	"klaxon/disk"
	"klaxon/kv"
	"klaxon/meta"
)

// P6.7: of one that may only read, or by which nothing was put or deleted,
// Commit is OK, also without power, and nothing is written.
func TestCommitOfNothing(t *testing.T) {
	d, db := fresh(t, 10)
	committed(t, db, books{{"a", "k"}: "1"})
	ops := d.Ops()
	for range 2 {
		for _, begin := range []func(*testing.T, *kv.DB) *kv.Tx{begun, viewed} {
			isErr(t, "Commit", begin(t, db).Commit(), api.OK)
		}
		tx := begun(t, db)
		isErr(t, "Put", tx.Put("A", "k", "2"), api.ErrKey)
		isErr(t, "Delete", tx.Delete("", "k"), api.ErrKey)
		isErr(t, "Commit of what was refused", tx.Commit(), api.OK)
		if d.Ops() != ops || db.Seq() != 2 {
			t.Errorf("%d operations, Seq %d", d.Ops()-ops, db.Seq())
		}
		off(d)
	}
}

// P6.7: whatever was put or deleted makes a commit with a Seq 1 greater, if all
// is behind it as it was, too.
func TestCommitOfTheSame(t *testing.T) {
	d, db := fresh(t, 10)
	want := books{{"a", "k"}: "1", {"b", "k"}: "2"}
	committed(t, db, want)
	for i, change := range []func(tx *kv.Tx) []api.Errno{
		func(tx *kv.Tx) []api.Errno { return []api.Errno{tx.Put("a", "k", "1")} },
		func(tx *kv.Tx) []api.Errno { return []api.Errno{tx.Put("a", "new", "1"), tx.Delete("a", "new")} },
		func(tx *kv.Tx) []api.Errno { return []api.Errno{tx.Delete("a", "k"), tx.Put("a", "k", "1")} },
		func(tx *kv.Tx) []api.Errno { return []api.Errno{tx.Delete("a", "none")} },
	} {
		tx := begun(t, db)
		for _, err := range change(tx) {
			isErr(t, "a change", err, api.OK)
		}
		isErr(t, "Commit", tx.Commit(), api.OK)
		has(t, "behind it", db, want, "a", "b")
		balanced(t, "behind it", d, db)
		if db.Seq() != uint64(3+i) {
			t.Errorf("Seq %d behind change %d", db.Seq(), i)
		}
		has(t, "opened anew", opened(t, d), want, "a", "b")
	}
}

// P6.7: a Commit writes into pages that no tree uses, and then one meta; what
// it has written is safe.
func TestCommitWrites(t *testing.T) {
	d, db := fresh(t, 60)
	first := numbered("a", 30, strings.Repeat("v", 40))
	committed(t, db, first)
	v := viewed(t, db)
	_, elder := standing(t, d)
	committed(t, db, books{{"a", "007"}: "anew"})
	_, now := standing(t, d)
	ahead, ops := image(t, d), d.Ops()
	committed(t, db, books{{"a", "015"}: "anew", {"b", "k"}: strings.Repeat("w", 700)})
	behind := image(t, d)
	m, next := standing(t, d)
	if len(d.Unsafe()) > 0 || m.Seq != 4 || m.Keys != 31 {
		t.Errorf("%v are unsafe, the meta is %v", d.Unsafe(), m)
	}
	var laid []int
	for _, id := range next {
		if !slices.Contains(now, id) {
			laid = append(laid, id)
		}
	}
	if len(laid) == 0 || d.Ops() != ops+per*len(laid)+3 {
		t.Errorf("%d operations for pages %v", d.Ops()-ops, laid)
	}
	for n := range d.Sectors() {
		same := bytes.Equal(ahead[n*size:(n+1)*size], behind[n*size:(n+1)*size])
		id := n / per
		if !same && n != 0 && !slices.Contains(laid, id) {
			t.Errorf("sector %d was written", n)
		}
		if !same && (slices.Contains(elder, id) || slices.Contains(now, id)) {
			t.Errorf("sector %d of a tree that may be seen was written", n)
		}
	}
	sees(t, "the View", v, first, "a", "b")
}

// P6.7: what a transaction did goes into the tree by rising keys: the same in
// another order comes to the same bytes.
func TestCommitIsTheSameInAnyOrder(t *testing.T) {
	var want []byte
	keys := slices.Collect(maps.Keys(numbered("a", 60, "")))
	for round := range 12 {
		d, db := fresh(t, 90)
		committed(t, db, numbered("a", 20, strings.Repeat("v", 30)))
		tx := begun(t, db)
		slices.SortFunc(keys, func(a, b name) int { return strings.Compare(a.key, b.key) })
		shuffle(keys, uint64(round))
		for _, n := range keys {
			var err api.Errno
			if n.key[2] == '3' {
				err = tx.Delete("a", n.key)
			} else {
				err = tx.Put("a", n.key, strings.Repeat(n.key, 1+int(n.key[1])))
			}
			isErr(t, "a change", err, api.OK)
		}
		isErr(t, "Commit", tx.Commit(), api.OK)
		got := image(t, d)
		if want == nil {
			want = got
		}
		if !bytes.Equal(got, want) {
			t.Fatalf("round %d: other bytes", round)
		}
	}
}

func shuffle[T any](l []T, seed uint64) {
	r := dice(seed)
	for i := range l {
		j := i + r.upTo(len(l)-i)
		l[i], l[j] = l[j], l[i]
	}
}

// dice is numbers that look like any, and are the same each time.
type dice uint64

func (r *dice) upTo(n int) int {
	*r = *r*6364136223846793005 + 1442695040888963407
	return int(uint64(*r)>>33) % n
}

// full holds that the commit of b is refused for want of room, and is as if it
// had not been.
func full(t *testing.T, d *disk.Disk, db *kv.DB, b books) {
	t.Helper()
	ahead, ops, seq, keys, free := image(t, d), d.Ops(), db.Seq(), db.Keys(), db.Free()
	isErr(t, "Commit", puts(t, db, b), api.ErrFull)
	if db.Seq() != seq || db.Keys() != keys || db.Free() != free {
		t.Errorf("behind ErrFull: Seq %d, Keys %d, %d free; ahead of it %d, %d, %d", db.Seq(), db.Keys(), db.Free(), seq, keys, free)
	}
	if d.Ops() != ops || len(d.Unsafe()) > 0 || !bytes.Equal(image(t, d), ahead) {
		t.Errorf("behind ErrFull: %d operations, %v are unsafe", d.Ops()-ops, d.Unsafe())
	}
}

// P6.7: on the least disk there is one page for a tree: one commit fits, the
// next one does not, for it may not lie over it; the empty tree needs none.
func TestLeastDisk(t *testing.T) {
	d, db := fresh(t, 3)
	for range 3 {
		committed(t, db, books{{"a", "k"}: "1"})
		if db.Free() != 0 {
			t.Errorf("%d free", db.Free())
		}
		full(t, d, db, books{{"a", "k"}: "3"})
		full(t, d, db, books{{"b", "k"}: ""})
		has(t, "full", db, books{{"a", "k"}: "1"}, "a", "b")
		for _, key := range []string{"none", "k"} {
			tx := begun(t, db)
			isErr(t, "Delete", tx.Delete("a", key), api.OK)
			isErr(t, "Commit", tx.Commit(), api.OK)
		}
		has(t, "emptied", db, books{}, "a", "b")
		balanced(t, "emptied", d, db)
	}
	if db.Seq() != 1+3*3 {
		t.Errorf("Seq %d", db.Seq())
	}
}

// P6.7: a key that was deleted and put again goes into the tree once: it needs
// no more room than one that was put.
func TestOneChangeOfEachKey(t *testing.T) {
	d, db := fresh(t, 3)
	tx := begun(t, db)
	for _, value := range []string{"1", "2"} {
		isErr(t, "Delete", tx.Delete("a", "k"), api.OK)
		isErr(t, "Put", tx.Put("a", "k", value), api.OK)
	}
	isErr(t, "Commit", tx.Commit(), api.OK)
	has(t, "behind it", db, books{{"a", "k"}: "2"}, "a")
	balanced(t, "behind it", d, db)
}

// P6.7: with just room enough a commit is OK; with one page less it is ErrFull,
// and as if it had not been, and what fits goes on.
func TestJustRoomEnough(t *testing.T) {
	first := numbered("a", 12, strings.Repeat("v", 50))
	second := numbered("b", 12, strings.Repeat("w", 50)).with(books{{"a", "003"}: strings.Repeat("x", 1000)})
	least := 0
	for pages := 3; least == 0; pages++ {
		d, db := fresh(t, pages)
		if puts(t, db, first) != api.OK {
			continue
		}
		_, l := standing(t, d)
		if err := puts(t, db, second); err == api.OK {
			least = pages
			has(t, "just room enough", db, first.with(second), "a", "b")
			balanced(t, "just room enough", d, db)
			has(t, "opened anew", opened(t, d), first.with(second), "a", "b")
			continue
		}
		full(t, d, db, second)
		has(t, "one page less", db, first, "a", "b")
		balanced(t, "one page less", d, db)
		has(t, "opened anew", opened(t, d), first, "a", "b")
		if pages > 40 {
			t.Fatalf("no room beside %v", l)
		}
	}
	if least < 3+4 {
		t.Errorf("%d pages have room for two trees", least)
	}
}

// P6.7: the pages of trees that transactions see are not laid anew, and are as
// soon as these have ended.
func TestViewsHoldPages(t *testing.T) {
	for _, end := range []func(*kv.Tx) api.Errno{(*kv.Tx).Abort, (*kv.Tx).Commit} {
		d, db := fresh(t, 6)
		first := books{{"a", "k"}: strings.Repeat("v", 900)}
		committed(t, db, first)
		v := viewed(t, db)
		if db.Free() != 1 {
			t.Fatalf("%d free", db.Free())
		}
		tx := begun(t, db)
		isErr(t, "Delete", tx.Delete("a", "k"), api.OK)
		isErr(t, "Commit", tx.Commit(), api.OK)
		if db.Free() != 1 {
			t.Errorf("%d free while a View sees the elder tree", db.Free())
		}
		full(t, d, db, first)
		sees(t, "the View", v, first, "a")
		isErr(t, "the end", end(v), api.OK)
		if db.Free() != 4 {
			t.Errorf("%d free behind the end of the View", db.Free())
		}
		committed(t, db, first)
		has(t, "behind it", db, first, "a")
	}
}

// P6.7: pages that only trees between two keys of one commit had, are laid
// anew within it.
func TestManyKeysInOneCommit(t *testing.T) {
	d, db := fresh(t, 60)
	want := numbered("a", 400, "v")
	committed(t, db, want)
	has(t, "many", db, want, "a")
	balanced(t, "many", d, db)
	tx := begun(t, db)
	for n := range want {
		isErr(t, "Delete", tx.Delete(n.bucket, n.key), api.OK)
	}
	isErr(t, "Commit", tx.Commit(), api.OK)
	has(t, "none", db, books{}, "a")
	if db.Free() != 58 {
		t.Errorf("%d free", db.Free())
	}
}

// P6.7: the power off at each operation of a Commit is told, and the DB is
// broken from then on, with the power on again, too.
func TestBroken(t *testing.T) {
	for after := 0; ; after++ {
		d, db := fresh(t, 20)
		committed(t, db, books{{"a", "k"}: "1"})
		free := db.Free()
		var views []*kv.Tx
		for range 2 * len(calls) {
			views = append(views, viewed(t, db))
		}
		tx := begun(t, db)
		isErr(t, "Put", tx.Put("a", "k", strings.Repeat("v", 700)), api.OK)
		d.Arm(after)
		err := tx.Commit()
		if err == api.OK {
			if after != 3*per+3 {
				t.Errorf("a Commit of three pages has %d operations", after)
			}
			break
		}
		isErr(t, "Commit", err, api.ErrDead)
		isBroken(t, db, tx, views[:len(calls)])
		d.Crash(nil)
		isBroken(t, db, tx, views[len(calls):])
		if db.Seq() != 2 || db.Keys() != 1 || db.Free() != free {
			t.Errorf("Seq %d, Keys %d, %d free of %d", db.Seq(), db.Keys(), db.Free(), free)
		}
		has(t, "opened anew", opened(t, d), books{{"a", "k"}: "1"}, "a")
	}
}

// isBroken holds what a broken DB answers, and the transaction that broke it,
// and Views, of which each has one call.
func isBroken(t *testing.T, db *kv.DB, tx *kv.Tx, views []*kv.Tx) {
	t.Helper()
	if x, err := db.Begin(); x != nil || err != api.ErrBroken {
		t.Errorf("Begin: %v, error %d", x, err)
	}
	if x, err := db.View(); x != nil || err != api.ErrBroken {
		t.Errorf("View: %v, error %d", x, err)
	}
	for i, c := range calls {
		isErr(t, c.name, c.call(t, tx, "A", "k", -1), api.ErrDone)
		isErr(t, c.name, c.call(t, nil, "A", "k", -1), api.ErrNone)
		want := api.ErrBroken
		if c.name == "Abort" {
			want = api.OK
		}
		isErr(t, c.name, c.call(t, views[i], "A", "k", -1), want)
		want = api.ErrBroken
		if c.name == "Abort" || c.name == "Commit" { // it has ended, whatever it answered
			want = api.ErrDone
		}
		isErr(t, c.name, c.call(t, views[i], "a", "k", 1), want)
	}
}

// P6.7: the power that is off is told by Commit, ahead of all operations, where
// the tree must be read; what is too much for the disk is ErrFull all the same,
// and breaks nothing.
func TestCommitWithoutPower(t *testing.T) {
	d, db := fresh(t, 20)
	off(d)
	full := begun(t, db)
	for i := range 40 {
		isErr(t, "Put", full.Put("a", fmt.Sprint(i), strings.Repeat("v", 700)), api.OK)
	}
	isErr(t, "Commit", full.Commit(), api.ErrFull)
	isErr(t, "Commit", puts(t, db, books{{"a", "k"}: "1"}), api.ErrDead)
	if _, err := db.Begin(); err != api.ErrBroken {
		t.Errorf("Begin: error %d", err)
	}
	d.Crash(nil)
	db = opened(t, d)
	committed(t, db, books{{"a", "k"}: "1"})
	off(d)
	isErr(t, "Commit", puts(t, db, books{{"a", "k"}: "2"}), api.ErrDead)
	if _, err := db.View(); err != api.ErrBroken {
		t.Errorf("View: error %d", err)
	}
	d.Crash(nil)
	has(t, "opened anew", opened(t, d), books{{"a", "k"}: "1"}, "a")
}

// P6.7: behind the greatest Seq there is none that is 1 greater: that is told,
// and all stays as it was.
func TestLastSeq(t *testing.T) {
	d := blank(t, 6)
	isErr(t, "Write", meta.Write(d, per, api.Meta{Seq: math.MaxUint64}), api.OK)
	isErr(t, "Sync", d.Sync(), api.OK)
	db := opened(t, d)
	if db.Seq() != math.MaxUint64 || db.Free() != 4 {
		t.Errorf("Seq %d, %d free", db.Seq(), db.Free())
	}
	for range 3 {
		isErr(t, "Commit", puts(t, db, books{{"a", "k"}: "1"}), api.ErrArg)
		has(t, "behind it", db, books{}, "a")
		balanced(t, "behind it", d, db)
	}
}

// P6.1, P6.8: keys of a tree that are in no bucket are counted, and not seen.
func TestForeignKeys(t *testing.T) {
	d, db := fresh(t, 20)
	committed(t, db, books{{"a", "k"}: "1"})
	m, _ := standing(t, d)
	for _, key := range []string{"a", "a\x00\x00\x00\x00\x00\x00", "a\x00\x00\x00\x00\x00\x00\x01", "A\x00\x00\x00\x00\x00\x00\x00", "b"} {
		x, _, err := btree.Put(laying{nodes{d}, &m.Root}, tree(m), key, "2")
		isErr(t, "Put", err, api.OK)
		m = api.Meta{Seq: m.Seq + 1, Root: x.Root, Keys: x.Keys, Depth: x.Depth}
		isErr(t, "Write", meta.Write(d, per, m), api.OK)
	}
	isErr(t, "Sync", d.Sync(), api.OK)
	db = opened(t, d)
	v := viewed(t, db)
	sees(t, "beside others", v, books{{"a", "k"}: "1"}, "a", "b")
	isErr(t, "Abort", v.Abort(), api.OK)
	if db.Keys() != 6 {
		t.Errorf("%d keys", db.Keys())
	}
	committed(t, db, books{{"b", ""}: "3"})
	v = viewed(t, db)
	sees(t, "behind a commit", v, books{{"a", "k"}: "1", {"b", ""}: "3"}, "a", "b")
	isErr(t, "Abort", v.Abort(), api.OK)
	if db.Keys() != 7 {
		t.Errorf("%d keys", db.Keys())
	}
	balanced(t, "beside others", d, db)
}
