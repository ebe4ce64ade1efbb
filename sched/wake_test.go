package sched_test

import (
	"testing"

	"klaxon/api"
)

// P19.4: 0 and false, if all are Paused.
func TestWakeOfNone(t *testing.T) {
	for _, now := range []int64{0, 1, 100, maxTime} {
		wakesNever(t, "no jobs", now)
		wakesNever(t, "one paused", now, paused(job(1, 0)))
		wakesNever(t, "all paused", now, paused(job(10, 3)), paused(last(job(10, 3), 3)), paused(last(job(1, 0), maxTime)))
	}
}

// P19.4: now at least.
func TestWakeNow(t *testing.T) {
	wakes(t, "for the first time", 0, []api.Job{job(10, 0)}, 0)
	wakes(t, "for the first time", 3, []api.Job{job(10, 3)}, 3)
	wakes(t, "a first moment missed", 4, []api.Job{job(10, 3)}, 4)
	wakes(t, "behind Last", 13, []api.Job{last(job(10, 3), 3)}, 13)
	wakes(t, "one moment missed", 14, []api.Job{last(job(10, 3), 3)}, 14)
	wakes(t, "many moments missed", 4444, []api.Job{last(job(10, 3), 3)}, 4444)
	wakes(t, "at the last time", maxTime, []api.Job{last(job(10, 3), 3)}, maxTime)
}

// P19.4
func TestWakeLater(t *testing.T) {
	wakes(t, "for the first time", 0, []api.Job{job(10, 3)}, 3)
	wakes(t, "for the first time", 2, []api.Job{job(10, 3)}, 3)
	wakes(t, "of Last at a moment", 3, []api.Job{last(job(10, 3), 3)}, 13)
	wakes(t, "of Last at a moment", 12, []api.Job{last(job(10, 3), 3)}, 13)
	wakes(t, "of Last one ahead of it", 2, []api.Job{last(job(10, 3), 2)}, 3)
	wakes(t, "of Last one behind it", 4, []api.Job{last(job(10, 3), 4)}, 13)
	wakes(t, "of each time", 7, []api.Job{last(job(1, 0), 7)}, 8)
	wakes(t, "of a day", 1, []api.Job{last(job(maxInterval, 0), 0)}, maxInterval)
	wakes(t, "behind the last time", maxTime, []api.Job{last(job(1, 0), maxTime)}, maxTime+1)
}

// P19.4: of a Last that is behind now, by Last.
func TestWakeOfALaterLast(t *testing.T) {
	wakes(t, "at a moment", 3, []api.Job{last(job(10, 3), 23)}, 33)
	wakes(t, "one ahead of it", 3, []api.Job{last(job(10, 3), 22)}, 23)
	wakes(t, "one behind it", 0, []api.Job{last(job(10, 3), 24)}, 33)
	wakes(t, "another one is sooner", 0, []api.Job{last(job(10, 3), 24), last(job(10, 4), 14)}, 24)
}

// P19.4: the least of several, in whichever order they come; Paused ones have no
// part.
func TestWakeAtTheLeast(t *testing.T) {
	soon, late, latest := last(job(10, 3), 3), last(job(20, 5), 5), job(1000, 999)
	for _, l := range [][]api.Job{
		{soon, late, latest}, {late, soon, latest}, {latest, late, soon}, {soon, soon, soon},
		{paused(job(1, 0)), latest, late, soon}, {soon, paused(job(1, 0)), late, paused(job(10, 0))},
	} {
		wakes(t, "the least", 6, l, 13)
		wakes(t, "the least", 12, l, 13)
		wakes(t, "one is Due", 13, l, 13)
		wakes(t, "one is Due", 30, l, 30)
	}
	wakes(t, "two", 6, []api.Job{late, paused(soon), latest}, 25)
	wakes(t, "one", 6, []api.Job{paused(late), paused(soon), latest}, 999)
	wakes(t, "missed ones", 50, []api.Job{latest, late, last(job(10, 3), 43)}, 50)
	wakes(t, "at 0", 0, []api.Job{latest, late, job(10, 0)}, 0)
}
