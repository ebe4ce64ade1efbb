package sched_test

import (
	"math"
	"math/rand"
	"slices"
	"testing"

	"klaxon/api"
	"klaxon/sched"
)

// isDue asks that the job is Due at now, as it is, and no other one beside it.
func isDue(t *testing.T, now int64, j api.Job) {
	t.Helper()
	due(t, "due", now, []api.Job{j}, j)
	due(t, "paused", now, []api.Job{paused(j)})
	due(t, "one paused", now, []api.Job{paused(j), j, paused(j)}, j)
}

func isNotDue(t *testing.T, now int64, j api.Job) {
	t.Helper()
	due(t, "not due", now, []api.Job{j})
	due(t, "paused", now, []api.Job{paused(j)})
}

// P19.2
func TestDueOfNone(t *testing.T) {
	for _, now := range []int64{0, 1, 100, maxTime} {
		due(t, "no jobs", now, nil)
		due(t, "no jobs", now, []api.Job{})
		due(t, "all paused", now, []api.Job{paused(job(1, 0)), paused(last(job(10, 3), 3)), paused(named("a", "b", 3))})
	}
}

// P19.2: from 0 on, if Last is Never.
func TestDueForTheFirstTime(t *testing.T) {
	isDue(t, 0, job(1, 0))
	isDue(t, 0, job(10, 0))
	isDue(t, 1, job(10, 0))
	isDue(t, 0, job(maxInterval, 0))
	for _, offset := range []int64{1, 3, 9} {
		isNotDue(t, 0, job(10, offset))
		isNotDue(t, offset-1, job(10, offset))
		isDue(t, offset, job(10, offset))
		isDue(t, offset+1, job(10, offset))
		isDue(t, offset+9, job(10, offset))
		isDue(t, offset+10, job(10, offset))
		isDue(t, maxTime, job(10, offset))
	}
	isNotDue(t, maxInterval-2, job(maxInterval, maxInterval-1))
	isDue(t, maxInterval-1, job(maxInterval, maxInterval-1))
}

// P19.2: of Last at a moment, one ahead of it, and one behind it.
func TestDueBehindLast(t *testing.T) {
	for _, j := range everyKind() {
		for _, n := range []int64{0, 1, 2, 1000} {
			at := j.Offset + n*j.Interval
			isNotDue(t, at, last(j, at))
			isNotDue(t, at+j.Interval-1, last(j, at))
			isDue(t, at+j.Interval, last(j, at))
			if at > 0 {
				isNotDue(t, at-1, last(j, at-1))
				isDue(t, at, last(j, at-1))
				isDue(t, at+1, last(j, at-1))
			}
			if j.Interval > 1 {
				isNotDue(t, at+1, last(j, at+1))
				isNotDue(t, at+j.Interval-1, last(j, at+1))
				isDue(t, at+j.Interval, last(j, at+1))
			}
		}
	}
	// At 0, and not Never: that moment is over.
	isNotDue(t, 0, last(job(10, 0), 0))
	isNotDue(t, 9, last(job(10, 0), 0))
	isDue(t, 10, last(job(10, 0), 0))
	isDue(t, 3, last(job(10, 3), 0))
}

// P19.2: of a Last that is now, or behind now.
func TestDueOfALaterLast(t *testing.T) {
	for _, at := range []int64{0, 2, 3, 4, 12, 13, 14, 40, maxTime} {
		isNotDue(t, at, last(job(10, 3), at))
		isNotDue(t, at, last(job(1, 0), at))
		for _, later := range []int64{1, 9, 10, 11, 100, maxTime - 40} {
			isNotDue(t, at, last(job(10, 3), at+later))
			isNotDue(t, at, last(job(1, 0), at+later))
		}
	}
}

// P19.2: however many moments were missed, once.
func TestDueOnce(t *testing.T) {
	for _, now := range []int64{13, 23, 40, 1003, 1 << 30, maxTime} {
		isDue(t, now, last(job(10, 3), 3))
		isDue(t, now, job(10, 3))
		isDue(t, now, last(job(1, 0), 12))
	}
	isDue(t, maxTime, last(job(1, 0), 0))
	isDue(t, maxTime, last(job(maxInterval, 5), 5))
}

// The chapter's example.
func TestExample(t *testing.T) {
	j := job(10, 3)
	nexts(t, j, 0, 3)
	nexts(t, j, 3, 13)
	isNotDue(t, 12, last(j, 3))
	isDue(t, 13, last(j, 3))
	isDue(t, 40, last(j, 3))
}

// P19.2: by Folder, then Group, then Id, in whichever order they come.
func TestDueInOrder(t *testing.T) {
	l := []api.Job{
		named("", "", 5), named("", "a", 4), named("", "z", 1),
		named("A", "z", 9),
		named("a", "", 9), named("a", "\x00", 1), named("a", "a", 3), named("a", "b", 2), named("a", "ba", 1), named("a", "c", 0),
		named("a\x00", "", 1), named("a\x00", "a", 0),
		named("aa", "a", 2), named("aa", "a", 9), named("aa", "a", 10), named("aa", "a", 11), named("aa", "a", 100), named("aa", "aa", 1),
		named("ab", "B", 3), named("ab", "a", 3), named("ab", "a\x00", 2), named("ab", "aa", 1), named("ab", "b", 1), named("ab", "é", 1), named("ab", "\xff", 0),
		named("b", "a", math.MinInt64), named("b", "a", -10), named("b", "a", -9), named("b", "a", 0), named("b", "a", 1), named("b", "a", math.MaxInt64),
		named("z", "", 1), named("é", "", 1), named("\xff", "", 1), named("\xff\x00", "", 0),
	}
	due(t, "rising", 0, l, l...)
	turned := slices.Clone(l)
	slices.Reverse(turned)
	due(t, "falling", 0, turned, l...)
	r := rand.New(rand.NewSource(191))
	for range 200 {
		due(t, "shuffled", 7, shuffled(r, l), l...)
	}
}

// P19.2: nothing but Folder, Group and Id has a part in the order.
func TestOnlyTheNameOrders(t *testing.T) {
	soon, late := named("f", "g", 1), named("f", "g", 2)
	soon.Interval, soon.Offset, soon.Last = 50, 40, 30
	late.Interval, late.Offset, late.Last = 5, 4, 3
	due(t, "one", 100, []api.Job{soon, late}, soon, late)
	due(t, "other", 100, []api.Job{late, soon}, soon, late)
	soon.Id, late.Id = 2, 1
	due(t, "one", 100, []api.Job{soon, late}, late, soon)
	due(t, "other", 100, []api.Job{late, soon}, late, soon)
}

// P19.2: those that are alike in all three in the order in which they come, and
// none of them is left out.
func TestAlikeOnesAsTheyCome(t *testing.T) {
	r := rand.New(rand.NewSource(192))
	for _, number := range []int{2, 3, 12, 13, 40, 200} {
		var l, want []api.Job
		for i := range number {
			j := named("f", "g", int64(i%3))
			j.Interval, j.Last = 1+r.Int63n(10), r.Int63n(80) // the marks by which they are told apart
			l = append(l, j)
		}
		for id := range int64(3) {
			for _, j := range l {
				if j.Id == id {
					want = append(want, j)
				}
			}
		}
		due(t, "alike", 100, l, want...)
	}
	j := named("f", "g", 1)
	due(t, "the same", 0, []api.Job{j, j, j}, j, j, j)
}

// P19.2: those that are not Due are left out in between, and the others are as
// they were.
func TestDueAmongOthers(t *testing.T) {
	a, b, c := last(job(10, 3), 3), last(job(7, 0), 5), job(20, 12)
	a.Id, b.Id, c.Id = 3, 2, 1
	l := []api.Job{a, paused(a), b, paused(b), c, paused(c)}
	due(t, "none", 6, l)
	due(t, "one", 7, l, b)
	due(t, "two", 12, l, c, b)
	due(t, "all", 13, l, c, b, a)
	if got := sched.Due(13, l...); len(got) != 3 || got[2] != a {
		t.Errorf("%+v", got)
	}
}
