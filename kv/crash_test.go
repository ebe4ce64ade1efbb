package kv_test

import (
	"fmt"
	"slices"
	"strings"
	"testing"

	"klaxon/api"
	"klaxon/disk"
	"klaxon/kv"
)

// plan is a DB with some commits, and a transaction whose Commit is under way
// when the power fails.
type plan struct {
	what   string
	pages  int
	ahead  []books
	viewed bool // a View is begun behind the first commit, and does not end
	puts   books
	gone   []name
}

var plans = []plan{
	{"the first commit", 5, nil, false, books{{"a", "k"}: "1"}, nil},
	{"a key anew", 5, []books{{{"a", "k"}: "1"}}, false, books{{"a", "k"}: "2"}, nil},
	{"the last key deleted", 3, []books{{{"a", "k"}: "1"}}, false, nil, []name{{"a", "k"}}},
	{"nothing to delete", 3, []books{{{"a", "k"}: "1"}}, false, nil, []name{{"a", "l"}}},
	{
		"pages that were laid ahead", 12,
		[]books{numbered("a", 7, "1"), numbered("a", 9, "2"), numbered("a", 8, "3")}, false,
		books{{"a", "004"}: "4", {"b", "k"}: strings.Repeat("v", 600)}, []name{{"a", "007"}},
	},
	{
		"beside a View", 20,
		[]books{numbered("a", 12, strings.Repeat("v", 30)), numbered("a", 9, "2")}, true,
		books{{"a", "004"}: "4", {"b", "k"}: "w"}, []name{{"a", "008"}},
	},
}

// run lays the plan onto a new disk, and has the power go off behind so many
// operations of its last Commit: it tells whether it did.
func (p plan) run(t *testing.T, after int) (d *disk.Disk, before, behind books, failed bool) {
	t.Helper()
	d, db := fresh(t, p.pages)
	before = books{}
	for i, b := range p.ahead {
		committed(t, db, b)
		before = before.with(b)
		if i == 0 && p.viewed {
			viewed(t, db)
		}
	}
	tx := begun(t, db)
	behind = before.with(p.puts)
	for n, value := range p.puts {
		isErr(t, "Put", tx.Put(n.bucket, n.key, value), api.OK)
	}
	for _, n := range p.gone {
		delete(behind, n)
		isErr(t, "Delete", tx.Delete(n.bucket, n.key), api.OK)
	}
	d.Arm(after)
	err := tx.Commit()
	if err != api.OK {
		isErr(t, "Commit", err, api.ErrDead)
	}
	return d, before, behind, err != api.OK
}

// choice is what of the unsafe sectors is left.
type choice struct {
	keep []int
	torn []api.Torn
}

// choices is all of them, where there are few; else many.
func choices(unsafe []int) []choice {
	all := []choice{{}, {keep: unsafe}}
	r := dice(len(unsafe))
	for i, n := range unsafe {
		others := slices.Delete(slices.Clone(unsafe), i, i+1)
		all = append(all, choice{keep: []int{n}}, choice{keep: others})
		torn := []api.Torn{{Sector: n, Bytes: r.upTo(size + 1)}}
		all = append(all, choice{torn: torn}, choice{others, torn})
	}
	if len(unsafe) == 1 {
		for at := range size + 1 {
			all = append(all, choice{torn: []api.Torn{{Sector: unsafe[0], Bytes: at}}})
		}
	}
	for range 5 * min(len(unsafe), 4) {
		var c choice
		for _, n := range unsafe {
			switch r.upTo(3) {
			case 0:
				c.keep = append(c.keep, n)
			case 1:
				c.torn = append(c.torn, api.Torn{Sector: n, Bytes: r.upTo(size + 1)})
			}
		}
		all = append(all, c)
	}
	return all
}

// P6.9: the power fails ahead of each operation of a Commit, with each choice
// of what is left: Open finds what was ahead of it, or behind it, whole; and
// all goes on from there.
func TestPowerFailsInCommit(t *testing.T) {
	for _, p := range plans {
		t.Run(p.what, func(t *testing.T) {
			t.Parallel()
			for after := 0; ; after++ {
				d, before, behind, failed := p.run(t, after)
				if !failed {
					d.Crash(nil) // what was answered with OK lasts
					has(t, "behind OK", opened(t, d), behind, "a", "b")
					break
				}
				unsafe := d.Unsafe()
				for _, c := range choices(unsafe) {
					d, _, _, _ := p.run(t, after)
					if !slices.Equal(d.Unsafe(), unsafe) {
						t.Fatalf("the same again left %v unsafe, ahead of it %v", d.Unsafe(), unsafe)
					}
					d.Crash(c.keep, c.torn...)
					oneOrTheOther(t, fmt.Sprintf("behind %d operations, left %v", after, c), d, before, behind)
				}
			}
		})
	}
}

// oneOrTheOther holds that the disk has the one or the other, whole, that it
// can be opened again and again, and that the next commits are OK.
func oneOrTheOther(t *testing.T, what string, d *disk.Disk, before, behind books) {
	t.Helper()
	ops := d.Ops()
	db := opened(t, d)
	m, _ := standing(t, d)
	want := before
	if found(t, db, behind) {
		want = behind
	}
	has(t, what, db, want, "a", "b")
	balanced(t, what, d, db)
	if d.Ops() != ops {
		t.Fatalf("%s: Open wrote", what)
	}
	tx := begun(t, db)
	for n := range want {
		isErr(t, "Delete", tx.Delete(n.bucket, n.key), api.OK)
	}
	isErr(t, what, tx.Put("a", "next", "n"), api.OK)
	err := tx.Commit()
	if err == api.ErrFull { // on the least disks
		return
	}
	isErr(t, what, err, api.OK)
	d.Crash(nil)
	db = opened(t, d)
	has(t, what+", the next", db, books{{"a", "next"}: "n"}, "a", "b")
	if db.Seq() != m.Seq+1 {
		t.Fatalf("%s: Seq %d behind %d", what, db.Seq(), m.Seq)
	}
}

// found is whether a View sees just the pairs of want.
func found(t *testing.T, db *kv.DB, want books) bool {
	t.Helper()
	v := viewed(t, db)
	defer v.Abort()
	for _, bucket := range []string{"a", "b"} {
		l, err := v.Scan(bucket, "", "", 1000)
		if err != api.OK || !slices.Equal(l, want.pairs(bucket)) {
			return false
		}
	}
	return true
}

// P6.9: the power fails again and again, in the middle of all kinds of commits,
// and each time all is as behind the last OK, or the one that was under way.
func TestPowerFailsAgainAndAgain(t *testing.T) {
	for seed := range uint64(6) {
		r := dice(seed)
		d, db := fresh(t, 50)
		now := books{}
		for step := range 250 {
			what := fmt.Sprintf("seed %d, step %d", seed, step)
			tx, next := begun(t, db), now.with(nil)
			for range 1 + r.upTo(6) {
				n := name{string(rune('a' + r.upTo(2))), fmt.Sprint(r.upTo(25))}
				if r.upTo(3) == 0 {
					delete(next, n)
					isErr(t, what, tx.Delete(n.bucket, n.key), api.OK)
				} else {
					next[n] = strings.Repeat(fmt.Sprint(step), 1+r.upTo(40))
					isErr(t, what, tx.Put(n.bucket, n.key, next[n]), api.OK)
				}
			}
			if r.upTo(2) == 0 {
				d.Arm(r.upTo(40))
			}
			err := tx.Commit()
			d.Arm(-1)
			if err == api.OK {
				now = next
				continue
			}
			isErr(t, what, err, api.ErrDead)
			l := choices(d.Unsafe())
			c := l[r.upTo(len(l))]
			d.Crash(c.keep, c.torn...)
			db = opened(t, d)
			if found(t, db, next) {
				now = next
			}
			has(t, what, db, now, "a", "b")
			balanced(t, what, d, db)
		}
	}
}
