package kv_test

import (
	"fmt"
	"slices"
	"strings"
	"testing"

	"klaxon/api"
	"klaxon/btree"
	"klaxon/disk"
	"klaxon/kv"
)

// watcher is a View, with what it must see, and the pages that it sees it in.
type watcher struct {
	tx    *kv.Tx
	sees  books
	pages []int
}

// P6.4 to P6.8, P6.10: all kinds of calls against books of what must be there,
// with Views that come and go, and the free pages counted from the trees that
// they see.
func TestAgainstBooks(t *testing.T) {
	for seed := range uint64(5) {
		r := dice(seed)
		pages := 25 + 15*int(seed)
		d, db := fresh(t, pages)
		now := books{}
		var views []watcher
		for step := range 200 {
			what := fmt.Sprintf("seed %d, step %d", seed, step)
			switch kind := r.upTo(4); {
			case kind == 0 && len(views) < 6:
				_, l := standing(t, d)
				views = append(views, watcher{viewed(t, db), now, l})
			case kind == 1 && len(views) > 0:
				i := r.upTo(len(views))
				isErr(t, what, views[i].tx.Abort(), api.OK)
				views = slices.Delete(views, i, i+1)
			default:
				now = act(t, what, &r, db, now)
			}
			if len(views) > 0 {
				w := views[r.upTo(len(views))]
				sees(t, what, w.tx, w.sees, "a", "b")
			}
			has(t, what, db, now, "a", "b")
			freeIs(t, what, d, db, views)
		}
		for _, w := range views {
			isErr(t, "Commit", w.tx.Commit(), api.OK)
		}
		balanced(t, "behind the end of all", d, db)
		has(t, "opened anew", opened(t, d), now, "a", "b")
		if again := opened(t, d); again.Free() != db.Free() || again.Seq() != db.Seq() {
			t.Errorf("opened anew: %d free, Seq %d; ahead of it %d, %d", again.Free(), again.Seq(), db.Free(), db.Seq())
		}
	}
}

// act has a transaction put and delete some keys, and end, and tells what must
// be there then.
func act(t *testing.T, what string, r *dice, db *kv.DB, now books) books {
	t.Helper()
	tx, next := begun(t, db), now.with(nil)
	for range r.upTo(8) {
		n := name{string(rune('a' + r.upTo(2))), strings.Repeat("k", r.upTo(3)) + fmt.Sprint(r.upTo(20))}
		if r.upTo(5) < 2 {
			delete(next, n)
			isErr(t, what, tx.Delete(n.bucket, n.key), api.OK)
		} else {
			next[n] = strings.Repeat(string(rune('a'+r.upTo(26))), r.upTo(90)*r.upTo(9))
			isErr(t, what, tx.Put(n.bucket, n.key, next[n]), api.OK)
		}
	}
	sees(t, what, tx, next, "a", "b")
	if r.upTo(5) == 0 {
		isErr(t, what, tx.Abort(), api.OK)
		return now
	}
	free := db.Free()
	switch err := tx.Commit(); err {
	case api.OK:
		return next
	case api.ErrFull:
		if db.Free() != free {
			t.Fatalf("%s: %d free behind ErrFull, %d ahead of it", what, db.Free(), free)
		}
	default:
		t.Fatalf("%s: Commit: error %d", what, err)
	}
	return now
}

// freeIs holds that Free is the pages that neither the last commit's tree nor
// one that is seen uses.
func freeIs(t *testing.T, what string, d *disk.Disk, db *kv.DB, views []watcher) {
	t.Helper()
	_, used := standing(t, d)
	for _, w := range views {
		used = append(used, w.pages...)
	}
	slices.Sort(used)
	used = slices.Compact(used)
	if want := d.Sectors()/per - 2 - len(used); db.Free() != want {
		t.Fatalf("%s: %d free, want %d", what, db.Free(), want)
	}
}

// P6.8: a page that came and went between two trees that are seen is free,
// though an elder one still is seen.
func TestFreeBetweenViews(t *testing.T) {
	d, db := fresh(t, 30)
	committed(t, db, books{{"a", "k"}: "1"})
	elder := viewed(t, db)
	for round := range 5 {
		committed(t, db, books{{"a", "long"}: strings.Repeat("v", 5000)})
		_, long := standing(t, d)
		committed(t, db, books{{"a", "long"}: "short"})
		// 30 pages, less the metas, the elder tree's one and the last tree's one.
		if db.Free() != 26 || len(long) < 11 {
			t.Errorf("round %d: %d free, the tree between had %d pages", round, db.Free(), len(long))
		}
	}
	sees(t, "the elder one", elder, books{{"a", "k"}: "1"}, "a")
	between := viewed(t, db)
	committed(t, db, books{{"a", "k"}: "2"})
	committed(t, db, books{{"a", "k"}: "3"})
	if db.Free() != 25 {
		t.Errorf("%d free, want 25", db.Free())
	}
	isErr(t, "Abort", elder.Abort(), api.OK)
	if db.Free() != 26 {
		t.Errorf("%d free, want 26", db.Free())
	}
	isErr(t, "Abort", between.Abort(), api.OK)
	if db.Free() != 27 {
		t.Errorf("%d free, want 27", db.Free())
	}
	balanced(t, "behind the end of all", d, db)
}

// P6.8: two Views of one tree both hold its pages, and a transaction that may
// write does, until it ends.
func TestFreeOfOneTreeSeenTwice(t *testing.T) {
	d, db := fresh(t, 10)
	committed(t, db, books{{"a", "k"}: "1"})
	a, b := viewed(t, db), viewed(t, db)
	committed(t, db, books{{"a", "k"}: "2"})
	for i, step := range []struct {
		tx   *kv.Tx
		free int
	}{{a, 6}, {b, 7}} {
		isErr(t, "Commit", step.tx.Commit(), api.OK)
		// Behind its end a View has no part in what the other one holds.
		isErr(t, "Commit", step.tx.Commit(), api.ErrDone)
		isErr(t, "Abort", step.tx.Abort(), api.ErrDone)
		if db.Free() != step.free {
			t.Errorf("%d free behind the end of View %d, want %d", db.Free(), i, step.free)
		}
	}
	tx := begun(t, db)
	isErr(t, "Put", tx.Put("a", "l", strings.Repeat("v", 2000)), api.OK)
	if db.Free() != 7 {
		t.Errorf("%d free within a transaction, want 7", db.Free())
	}
	isErr(t, "Abort", tx.Abort(), api.OK)
	balanced(t, "behind the end of all", d, db)
}

// P6.4, P6.8: the pages of a tree that was opened are held by a View as those
// of one that was committed.
func TestViewOfWhatWasOpened(t *testing.T) {
	d, db := fresh(t, 30)
	first := numbered("a", 12, strings.Repeat("v", 50))
	committed(t, db, first)
	db = opened(t, d)
	_, l := standing(t, d)
	views := []watcher{{viewed(t, db), first, l}}
	for i := range 4 {
		committed(t, db, numbered("a", 12, fmt.Sprint(i)))
		sees(t, "the View", views[0].tx, first, "a", "b")
		freeIs(t, "beside the View", d, db, views)
	}
	isErr(t, "Abort", views[0].tx.Abort(), api.OK)
	balanced(t, "behind the end of all", d, db)
}

// P6.10: what is put and deleted again and again never fills the disk, and
// refused and given-up transactions lose nothing either.
func TestNeverFills(t *testing.T) {
	d, db := fresh(t, 14)
	for round := range 400 {
		b := books{{"a", fmt.Sprint(round % 7)}: strings.Repeat("v", 100+round%900)}
		committed(t, db, b)
		has(t, "put", db, b, "a")
		balanced(t, "put", d, db)
		if round%9 == 0 {
			isErr(t, "Commit", puts(t, db, numbered("a", 30, strings.Repeat("w", 300))), api.ErrFull)
			isErr(t, "Abort", begunAndEnded(t, db), api.OK)
		}
		if round%11 == 0 {
			db = opened(t, d)
		}
		tx := begun(t, db)
		isErr(t, "Delete", tx.Delete("a", fmt.Sprint(round%7)), api.OK)
		isErr(t, "Commit", tx.Commit(), api.OK)
		if db.Free() != 12 {
			t.Fatalf("round %d: %d free", round, db.Free())
		}
	}
}

// P6.7: what is on the disk is the tree that btree makes of the same keys, put
// in their order.
func TestAsBtree(t *testing.T) {
	d, db := fresh(t, 80)
	all := numbered("a", 70, strings.Repeat("v", 25)).with(books{{"b", "k"}: strings.Repeat("w", 900)})
	committed(t, db, all)
	m, l := standing(t, d)
	s := blank(t, 4000)
	last := 1
	var x api.Tree
	for _, bucket := range []string{"a", "b"} {
		for _, p := range all.pairs(bucket) {
			next, _, err := btree.Put(laying{nodes{s}, &last}, x, bucket+"\x00\x00\x00\x00\x00\x00\x00"+p.Key, p.Value)
			isErr(t, "Put", err, api.OK)
			x = next
		}
	}
	own, err := btree.Pages(nodes{s}, x)
	isErr(t, "Pages", err, api.OK)
	if m.Keys != x.Keys || m.Depth != x.Depth || len(l) != len(own) {
		t.Errorf("%v in %d pages, want %v in %d", m, len(l), x, len(own))
	}
}
