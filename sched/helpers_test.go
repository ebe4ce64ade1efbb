package sched_test

import (
	"math"
	"math/rand"
	"slices"
	"testing"

	"klaxon/api"
	"klaxon/sched"
)

const (
	never       = -1
	maxTime     = 1 << 40
	maxInterval = 86400
)

// job is one of f, g and 1 that was never evaluated.
func job(interval, offset int64) api.Job {
	return api.Job{Folder: "f", Group: "g", Id: 1, Interval: interval, Offset: offset, Last: never}
}

// last is the job that was evaluated at that time.
func last(j api.Job, at int64) api.Job {
	j.Last = at
	return j
}

func paused(j api.Job) api.Job {
	j.Paused = true
	return j
}

// named is a job of that name, of which each time is a moment.
func named(folder, group string, id int64) api.Job {
	return api.Job{Folder: folder, Group: group, Id: id, Interval: 1, Last: never}
}

func oneOf[T any](r *rand.Rand, l ...T) T { return l[r.Intn(len(l))] }

// shuffled is the list in another order.
func shuffled(r *rand.Rand, l []api.Job) []api.Job {
	l = slices.Clone(l)
	r.Shuffle(len(l), func(a, b int) { l[a], l[b] = l[b], l[a] })
	return l
}

// due asks that those of the jobs are Due at now that are told, in that order.
func due(t *testing.T, what string, now int64, l []api.Job, want ...api.Job) {
	t.Helper()
	if got := sched.Due(now, l...); !slices.Equal(got, want) {
		t.Errorf("%s: Due(%d, %+v):\n%+v, want\n%+v", what, now, l, got, want)
	}
}

func wakes(t *testing.T, what string, now int64, l []api.Job, want int64) {
	t.Helper()
	if at, ok := sched.Wake(now, l...); at != want || !ok {
		t.Errorf("%s: Wake(%d, %+v): %d, %v, want %d", what, now, l, at, ok, want)
	}
}

func wakesNever(t *testing.T, what string, now int64, l ...api.Job) {
	t.Helper()
	if at, ok := sched.Wake(now, l...); at != 0 || ok {
		t.Errorf("%s: Wake(%d, %+v): %d, %v, want 0, false", what, now, l, at, ok)
	}
}

// strange is numbers of which the chapter says nothing, as times and as intervals.
func strange() []int64 {
	return []int64{math.MinInt64, math.MinInt64 + 1, -maxTime, -2, never, 0, 1, 7, maxTime, maxTime + 1, math.MaxInt64 - 1, math.MaxInt64}
}
