package kv_test

import (
	"fmt"
	"math"
	"slices"
	"strings"
	"testing"

	"klaxon/api"
	"klaxon/disk"
	"klaxon/kv"
)

// calls is all calls of a transaction, the one that ends it last; each one
// holds that beside an error all else is zero.
var calls = []struct {
	name string
	call func(t *testing.T, tx *kv.Tx, bucket, key string, most int) api.Errno
}{
	{"Get", func(t *testing.T, tx *kv.Tx, bucket, key string, _ int) api.Errno {
		v, ok, err := tx.Get(bucket, key)
		if err != api.OK && (v != "" || ok) {
			t.Errorf("Get: %q %v, error %d", v, ok, err)
		}
		return err
	}},
	{"Scan", func(t *testing.T, tx *kv.Tx, bucket, key string, most int) api.Errno {
		l, err := tx.Scan(bucket, key, "", most)
		if err != api.OK && len(l) > 0 {
			t.Errorf("Scan: %q, error %d", l, err)
		}
		return err
	}},
	{"Put", func(_ *testing.T, tx *kv.Tx, bucket, key string, _ int) api.Errno { return tx.Put(bucket, key, "v") }},
	{"Delete", func(_ *testing.T, tx *kv.Tx, bucket, key string, _ int) api.Errno { return tx.Delete(bucket, key) }},
	{"Commit", func(_ *testing.T, tx *kv.Tx, _, _ string, _ int) api.Errno { return tx.Commit() }},
	{"Abort", func(_ *testing.T, tx *kv.Tx, _, _ string, _ int) api.Errno { return tx.Abort() }},
}

// P6.4, P6.8: what a nil DB answers.
func TestNilDB(t *testing.T) {
	var db *kv.DB
	if tx, err := db.Begin(); tx != nil || err != api.ErrNone {
		t.Errorf("Begin: %v, error %d", tx, err)
	}
	if tx, err := db.View(); tx != nil || err != api.ErrNone {
		t.Errorf("View: %v, error %d", tx, err)
	}
	if db.Seq() != 0 || db.Keys() != 0 || db.Free() != 0 {
		t.Errorf("Seq %d, Keys %d, Free %d", db.Seq(), db.Keys(), db.Free())
	}
}

// P6.5, P6.6, P6.7: a nil Tx is ErrNone, whatever else is wrong.
func TestNilTx(t *testing.T) {
	for _, c := range calls {
		isErr(t, c.name, c.call(t, nil, "a", "k", 1), api.ErrNone)
		isErr(t, c.name, c.call(t, nil, "A", "k", -1), api.ErrNone)
	}
}

// P6.5, P6.6, P6.7: each call behind Commit and behind Abort is ErrDone,
// whatever else is wrong.
func TestEnded(t *testing.T) {
	for _, begin := range []func(*testing.T, *kv.DB) *kv.Tx{begun, viewed} {
		for _, end := range []func(*kv.Tx) api.Errno{(*kv.Tx).Commit, (*kv.Tx).Abort} {
			_, db := fresh(t, 4)
			tx := begin(t, db)
			isErr(t, "the end", end(tx), api.OK)
			for _, c := range calls {
				isErr(t, c.name, c.call(t, tx, "a", "k", 1), api.ErrDone)
				isErr(t, c.name, c.call(t, tx, "A", "k", -1), api.ErrDone)
			}
			isErr(t, "Commit", puts(t, db, books{{"a", "k"}: "1"}), api.OK)
		}
	}
}

// P6.6: ErrRead ahead of ErrKey; nothing is changed by it.
func TestViewMayOnlyRead(t *testing.T) {
	_, db := fresh(t, 4)
	committed(t, db, books{{"a", "k"}: "1"})
	v := viewed(t, db)
	for _, bucket := range []string{"a", "A", ""} {
		isErr(t, "Put", v.Put(bucket, "k", strings.Repeat("v", api.MaxValue+1)), api.ErrRead)
		isErr(t, "Delete", v.Delete(bucket, strings.Repeat("k", api.MaxInner+1)), api.ErrRead)
	}
	sees(t, "a View", v, books{{"a", "k"}: "1"}, "a")
	isErr(t, "Commit", v.Commit(), api.OK)
	has(t, "behind it", db, books{{"a", "k"}: "1"}, "a")
}

// P6.4: one that may write at a time; Views beside it as many as there may be.
func TestBusy(t *testing.T) {
	_, db := fresh(t, 4)
	for _, end := range []func(*kv.Tx) api.Errno{(*kv.Tx).Commit, (*kv.Tx).Abort} {
		tx := begun(t, db)
		if second, err := db.Begin(); second != nil || err != api.ErrBusy {
			t.Errorf("Begin: %v, error %d", second, err)
		}
		a, b := viewed(t, db), viewed(t, db)
		isErr(t, "Abort", a.Abort(), api.OK)
		if second, err := db.Begin(); second != nil || err != api.ErrBusy {
			t.Errorf("Begin behind the end of a View: %v, error %d", second, err)
		}
		isErr(t, "the end", end(tx), api.OK)
		isErr(t, "Put", begunAndEnded(t, db), api.OK)
		isErr(t, "Commit", b.Commit(), api.OK)
	}
	tx := begun(t, db)
	for range 3 {
		for key := range 4 {
			tx.Put("a", fmt.Sprint(key), strings.Repeat("v", 9000))
		}
		isErr(t, "Commit", tx.Commit(), api.ErrFull)
		tx = begun(t, db)
	}
}

func begunAndEnded(t *testing.T, db *kv.DB) api.Errno {
	t.Helper()
	return begun(t, db).Abort()
}

// P6.1, P6.5, P6.6: which buckets and keys there are.
func TestWhichKeys(t *testing.T) {
	_, db := fresh(t, 400)
	tx := begun(t, db)
	want := books{}
	for _, c := range []struct {
		bucket string
		right  bool
	}{
		{"", false}, {"a", true}, {"z", true}, {"ab", true}, {"abcdefg", true}, {"abcdefgz", true}, {"abcdefghi", false},
		{"zzzzzzzz", true}, {"zzzzzzzzz", false},
		{"A", false}, {"Z", false}, {"`", false}, {"{", false}, {"0", false}, {" ", false}, {"-", false},
		{"a\x00", false}, {"\x00a", false}, {"\x00", false}, {"aBc", false}, {"ab ", false}, {" ab", false}, {"a.b", false},
		{"é", false}, {"aé", false}, {"\xff", false}, {"a\xff", false}, {"\xe1", false},
	} {
		for _, n := range []int{0, 1, 2, 55, 56, 57, 64, 1000} {
			key := strings.Repeat("k", n)
			at := fmt.Sprintf("bucket %q, %d bytes", c.bucket, n)
			wanted := api.ErrKey
			if c.right && n <= api.MaxInner {
				wanted = api.OK
			}
			_, ok, err := tx.Get(c.bucket, key)
			if ok {
				t.Errorf("%s: it is there", at)
			}
			isErr(t, "Get, "+at, err, wanted)
			isErr(t, "Delete, "+at, tx.Delete(c.bucket, key), wanted)
			isErr(t, "Put, "+at, tx.Put(c.bucket, key, at), wanted)
			v, ok, err := tx.Get(c.bucket, key)
			isErr(t, "Get, "+at, err, wanted)
			if wanted == api.OK {
				want[name{c.bucket, key}] = at
			}
			if ok != (err == api.OK) || v != want[name{c.bucket, key}] {
				t.Errorf("Get, %s: %q %v", at, v, ok)
			}
			// What Scan begins and ends at may be of any length.
			wanted = api.OK
			if !c.right {
				wanted = api.ErrKey
			}
			_, err = tx.Scan(c.bucket, key, key+"l", 0)
			isErr(t, "Scan, "+at, err, wanted)
			_, err = tx.Scan(c.bucket, key, key, -1)
			isErr(t, "Scan, "+at, err, max(wanted, api.ErrArg))
		}
	}
	buckets := []string{"a", "z", "ab", "abcdefg", "abcdefgz", "zzzzzzzz"}
	sees(t, "ahead of Commit", tx, want, buckets...)
	isErr(t, "Commit", tx.Commit(), api.OK)
	has(t, "behind Commit", db, want, buckets...)
}

// P6.6: a value has at most MaxValue bytes; what is refused is not there.
func TestWhichValues(t *testing.T) {
	d, db := fresh(t, 150)
	tx := begun(t, db)
	want := books{}
	for _, n := range []int{0, 1, 61, 62, 500, 501, 502, api.MaxValue - 1, api.MaxValue} {
		v := strings.Repeat("v", n)
		want[name{"a", fmt.Sprint(n)}] = v
		isErr(t, "Put", tx.Put("a", fmt.Sprint(n), v), api.OK)
	}
	isErr(t, "Put", tx.Put("a", "0", strings.Repeat("v", api.MaxValue+1)), api.ErrKey)
	isErr(t, "Put", tx.Put("a", "new", strings.Repeat("v", api.MaxValue+1)), api.ErrKey)
	isErr(t, "Put", tx.Put("a", strings.Repeat("k", api.MaxInner+1), ""), api.ErrKey)
	sees(t, "ahead of Commit", tx, want, "a")
	isErr(t, "Commit", tx.Commit(), api.OK)
	has(t, "behind Commit", db, want, "a")
	has(t, "opened anew", opened(t, d), want, "a")
	balanced(t, "opened anew", d, db)
}

// P6.5: from and to, and most; in the tree, in the transaction, and in both;
// with buckets beside it of which one's name begins with the other's.
func TestScan(t *testing.T) {
	keys := []string{"", "\x00", "b", "b\x00", "bb", "d", "\xff", "\xff\xff"}
	edges := []string{"", "\x00", "\x00\x00", "a", "b", "b\x00", "bb", "bba", "c", "d", "e", "\xff", "\xff\xff", strings.Repeat("\xff", 56), strings.Repeat("\xff", 99)}
	for _, how := range []struct {
		what   string
		ahead  func(i int) bool // which of the keys are put ahead of the transaction
		within func(i int) bool // and which within it
	}{
		{"in the tree", func(int) bool { return true }, func(int) bool { return false }},
		{"in the transaction", func(int) bool { return false }, func(int) bool { return true }},
		{"in both", func(i int) bool { return i%2 == 0 }, func(i int) bool { return i%2 == 1 }},
		{"over the tree's", func(i int) bool { return i < 6 }, func(i int) bool { return i > 2 }},
	} {
		_, db := fresh(t, 60)
		ahead := books{}
		for i, key := range keys {
			for _, bucket := range []string{"a", "aa", "b", "aaaaaaaa", "aaaaaaab"} {
				if how.ahead(i) {
					ahead[name{bucket, key}] = "tree " + bucket
				}
			}
		}
		committed(t, db, ahead)
		tx, all := begun(t, db), ahead
		for i, key := range keys {
			for _, bucket := range []string{"a", "aa", "b", "aaaaaaaa", "aaaaaaab"} {
				if how.within(i) {
					isErr(t, "Put", tx.Put(bucket, key, "own "+bucket), api.OK)
					all = all.with(books{{bucket, key}: "own " + bucket})
				}
			}
		}
		for _, from := range edges {
			for _, to := range edges {
				for _, bucket := range []string{"a", "aa", "aaaaaaaa", "ab"} {
					scans(t, how.what, tx, all.pairs(bucket), bucket, from, to)
				}
			}
		}
	}
}

// scans holds that Scan answers those of pairs that are within from and to, for
// each most of which the document speaks.
func scans(t *testing.T, what string, tx *kv.Tx, pairs []api.Pair, bucket, from, to string) {
	t.Helper()
	want := slices.DeleteFunc(slices.Clone(pairs), func(p api.Pair) bool {
		return p.Key < from || to != "" && p.Key >= to
	})
	for _, most := range []int{0, 1, len(want) - 1, len(want), len(want) + 1, math.MaxInt} {
		if most < 0 {
			continue
		}
		l, err := tx.Scan(bucket, from, to, most)
		if err != api.OK || !slices.Equal(l, want[:min(most, len(want))]) {
			t.Fatalf("%s: Scan(%q, %q, %q, %d): %q, error %d, want of %q", what, bucket, from, to, most, l, err, want)
		}
	}
	for _, most := range []int{-1, math.MinInt} {
		if l, err := tx.Scan(bucket, from, to, most); len(l) > 0 || err != api.ErrArg {
			t.Fatalf("Scan of most %d: %q, error %d", most, l, err)
		}
	}
}

// P6.5: what is answered is new each time: who changes it changes nothing else.
func TestScanIsNew(t *testing.T) {
	_, db := fresh(t, 10)
	want := numbered("a", 5, "v")
	committed(t, db, want)
	tx := begun(t, db)
	isErr(t, "Put", tx.Put("a", "own", "v"), api.OK)
	want = want.with(books{{"a", "own"}: "v"})
	for range 3 {
		l, err := tx.Scan("a", "", "", 4)
		isErr(t, "Scan", err, api.OK)
		for i := range l[:cap(l)] {
			l[:cap(l)][i] = api.Pair{Key: "x", Value: "y"}
		}
		sees(t, "changed", tx, want, "a")
	}
}

// P6.5, P6.6: a transaction sees what it itself has put and deleted, the last
// of each key.
func TestOwnChanges(t *testing.T) {
	_, db := fresh(t, 20)
	committed(t, db, books{{"a", "k"}: "1", {"a", "l"}: "2", {"b", "k"}: "3"})
	tx, v := begun(t, db), viewed(t, db)
	step := func(what string, err api.Errno, want books) {
		t.Helper()
		isErr(t, what, err, api.OK)
		sees(t, what, tx, want, "a", "b")
		sees(t, what+", beside it", v, books{{"a", "k"}: "1", {"a", "l"}: "2", {"b", "k"}: "3"}, "a", "b")
	}
	step("Put anew", tx.Put("a", "k", "4"), books{{"a", "k"}: "4", {"a", "l"}: "2", {"b", "k"}: "3"})
	step("Put again", tx.Put("a", "k", "5"), books{{"a", "k"}: "5", {"a", "l"}: "2", {"b", "k"}: "3"})
	step("Delete", tx.Delete("a", "k"), books{{"a", "l"}: "2", {"b", "k"}: "3"})
	step("Delete again", tx.Delete("a", "k"), books{{"a", "l"}: "2", {"b", "k"}: "3"})
	step("Put of what was deleted", tx.Put("a", "k", "6"), books{{"a", "k"}: "6", {"a", "l"}: "2", {"b", "k"}: "3"})
	step("Put of another", tx.Put("a", "m", ""), books{{"a", "k"}: "6", {"a", "l"}: "2", {"a", "m"}: "", {"b", "k"}: "3"})
	step("Delete of it", tx.Delete("a", "m"), books{{"a", "k"}: "6", {"a", "l"}: "2", {"b", "k"}: "3"})
	step("Delete of what is not there", tx.Delete("b", "none"), books{{"a", "k"}: "6", {"a", "l"}: "2", {"b", "k"}: "3"})
	step("Delete of the tree's", tx.Delete("b", "k"), books{{"a", "k"}: "6", {"a", "l"}: "2"})
	for _, n := range []name{{"b", "k"}, {"a", "m"}, {"b", "none"}, {"c", "k"}} {
		if s, ok, err := tx.Get(n.bucket, n.key); s != "" || ok || err != api.OK {
			t.Errorf("Get(%q): %q %v, error %d", n, s, ok, err)
		}
	}
	isErr(t, "Commit", tx.Commit(), api.OK)
	has(t, "behind Commit", db, books{{"a", "k"}: "6", {"a", "l"}: "2"}, "a", "b")
	sees(t, "the View", v, books{{"a", "k"}: "1", {"a", "l"}: "2", {"b", "k"}: "3"}, "a", "b")
}

// P6.4: Views that were begun ahead of a Commit and behind it, both read behind
// the next ones, each see what was committed ahead of them.
func TestViewsStay(t *testing.T) {
	_, db := fresh(t, 200)
	var views []*kv.Tx
	var had []books
	now := books{}
	for i := range 12 {
		views, had = append(views, viewed(t, db)), append(had, now)
		change := books{{"a", fmt.Sprint(i % 5)}: fmt.Sprint("v", i), {"b", fmt.Sprint(i)}: strings.Repeat("w", 100*i)}
		now = now.with(change)
		committed(t, db, change)
		for j, v := range views {
			sees(t, fmt.Sprintf("view %d behind commit %d", j, i), v, had[j], "a", "b")
		}
	}
	for j, v := range views {
		isErr(t, "Abort", v.Abort(), api.OK)
		for k := j + 1; k < len(views); k++ {
			sees(t, fmt.Sprintf("view %d behind the end of %d", k, j), views[k], had[k], "a", "b")
		}
	}
}

// P6.7: Abort leaves all as it was, and nothing is written.
func TestAbort(t *testing.T) {
	d, db := fresh(t, 20)
	committed(t, db, books{{"a", "k"}: "1"})
	ops, free := d.Ops(), db.Free()
	tx := begun(t, db)
	isErr(t, "Put", tx.Put("a", "k", "2"), api.OK)
	isErr(t, "Put", tx.Put("a", "l", "3"), api.OK)
	isErr(t, "Delete", tx.Delete("a", "k"), api.OK)
	if db.Keys() != 1 || db.Seq() != 2 {
		t.Errorf("ahead of the end: Keys %d, Seq %d", db.Keys(), db.Seq())
	}
	isErr(t, "Abort", tx.Abort(), api.OK)
	has(t, "behind Abort", db, books{{"a", "k"}: "1"}, "a")
	if d.Ops() != ops || db.Seq() != 2 || db.Free() != free {
		t.Errorf("%d operations, Seq %d, %d free", d.Ops()-ops, db.Seq(), db.Free())
	}
	has(t, "begun again", db, books{{"a", "k"}: "1"}, "a")
}

// P6.5: with the power off what is read of the tree is the disk's error, and
// with the power on again all goes on: nothing was written.
func TestReadWithoutPower(t *testing.T) {
	d, db := fresh(t, 20)
	committed(t, db, books{{"a", "k"}: "1"})
	tx, v := begun(t, db), viewed(t, db)
	isErr(t, "Put", tx.Put("a", "own", "2"), api.OK)
	off(d)
	for _, x := range []*kv.Tx{tx, v} {
		if s, ok, err := x.Get("a", "k"); s != "" || ok || err != api.ErrDead {
			t.Errorf("Get: %q %v, error %d", s, ok, err)
		}
		if l, err := x.Scan("a", "", "", 9); len(l) > 0 || err != api.ErrDead {
			t.Errorf("Scan: %q, error %d", l, err)
		}
	}
	d.Crash(nil)
	sees(t, "a View", v, books{{"a", "k"}: "1"}, "a")
	isErr(t, "Commit", tx.Commit(), api.OK)
	has(t, "behind it", db, books{{"a", "k"}: "1", {"a", "own"}: "2"}, "a")
}

// off has the power go off.
func off(d *disk.Disk) {
	d.Arm(0)
	d.Sync()
}
