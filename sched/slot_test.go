package sched_test

import (
	"testing"

	"klaxon/api"
	"klaxon/sched"
)

func slots(t *testing.T, j api.Job, at, want int64) {
	t.Helper()
	if got := sched.Slot(j, at); got != want {
		t.Errorf("Slot(%+v, %d): %d, want %d", j, at, got, want)
	}
}

func nexts(t *testing.T, j api.Job, now, want int64) {
	t.Helper()
	if got := sched.Next(j, now); got != want {
		t.Errorf("Next(%+v, %d): %d, want %d", j, now, got, want)
	}
}

// everyKind is jobs with the least and the greatest Interval and Offset, and some
// in between.
func everyKind() []api.Job {
	return []api.Job{
		job(1, 0), job(2, 0), job(2, 1), job(10, 0), job(10, 3), job(10, 9), job(60, 17),
		job(maxInterval, 0), job(maxInterval, 1), job(maxInterval, maxInterval-1), job(maxInterval-1, maxInterval-2),
	}
}

// P19.1: ahead of the first moment.
func TestSlotAheadOfTheFirst(t *testing.T) {
	for _, j := range everyKind() {
		slots(t, j, api.Never, -1)
		if j.Offset > 0 {
			slots(t, j, 0, -1)
		}
		slots(t, j, j.Offset-1, -1)
		slots(t, j, j.Offset, 0)
		slots(t, j, j.Offset+1, 1/j.Interval)
	}
}

// P19.1: one ahead of a later moment, at it, and one behind it.
func TestSlotAtLaterOnes(t *testing.T) {
	for _, j := range everyKind() {
		for _, n := range []int64{1, 2, 3, 10, 1000, 1 << 20} {
			at := j.Offset + n*j.Interval
			slots(t, j, at-1, n-1)
			slots(t, j, at, n)
			slots(t, j, at+1, n+1/j.Interval)
		}
	}
}

// P19.1: at the last time that there is.
func TestSlotAtTheLastTime(t *testing.T) {
	slots(t, job(1, 0), maxTime, maxTime)
	slots(t, job(2, 0), maxTime, 1<<39)
	slots(t, job(2, 1), maxTime, 1<<39-1)
	slots(t, job(1<<16, 0), maxTime, 1<<24)
	slots(t, job(1<<16, 1), maxTime, 1<<24-1)
	slots(t, job(1<<16, 1<<16-1), maxTime, 1<<24-1)
	// 2^40 is 12725829 days and 2176.
	slots(t, job(maxInterval, 0), maxTime, 12725829)
	slots(t, job(maxInterval, 2175), maxTime, 12725829)
	slots(t, job(maxInterval, 2176), maxTime, 12725829)
	slots(t, job(maxInterval, 2177), maxTime, 12725828)
	slots(t, job(maxInterval, maxInterval-1), maxTime, 12725828)
}

// P19.3: at a moment, one ahead of it, and one behind it.
func TestNext(t *testing.T) {
	for _, j := range everyKind() {
		nexts(t, j, api.Never, j.Offset)
		if j.Offset > 0 {
			nexts(t, j, 0, j.Offset)
			nexts(t, j, j.Offset-1, j.Offset)
		}
		for _, n := range []int64{0, 1, 2, 3, 10, 1000, 1 << 20} {
			at := j.Offset + n*j.Interval
			if at > 0 {
				nexts(t, j, at-1, at)
			}
			nexts(t, j, at, at+j.Interval)
			nexts(t, j, at+1, at+j.Interval*(1+1/j.Interval))
			nexts(t, j, at+j.Interval-1, at+j.Interval)
		}
	}
}

// P19.3: behind the last time that there is, too.
func TestNextBehindTheLastTime(t *testing.T) {
	nexts(t, job(1, 0), maxTime-1, maxTime)
	nexts(t, job(1, 0), maxTime, maxTime+1)
	nexts(t, job(2, 0), maxTime, maxTime+2)
	nexts(t, job(2, 1), maxTime, maxTime+1)
	nexts(t, job(1<<16, 5), maxTime, maxTime+5)
	nexts(t, job(1<<16, 0), maxTime-1, maxTime)
	nexts(t, job(1<<16, 0), maxTime, maxTime+1<<16)
}

// P19.1, P19.3: neither hangs on anything but Interval and Offset.
func TestMomentsHangOnIntervalAndOffset(t *testing.T) {
	for _, l := range []int64{never, 0, 3, 12, 13, 14, 22, 23, 40, maxTime} {
		j := last(paused(api.Job{Folder: "other", Group: "than", Id: 77, Interval: 10, Offset: 3}), l)
		slots(t, j, api.Never, -1)
		slots(t, j, 2, -1)
		slots(t, j, 22, 1)
		slots(t, j, 23, 2)
		nexts(t, j, 0, 3)
		nexts(t, j, 3, 13)
		nexts(t, j, 22, 23)
		nexts(t, j, 23, 33)
	}
}
