package sched_test

import (
	"math/rand"
	"slices"
	"testing"

	"klaxon/api"
	"klaxon/sched"
)

// told is the times at which the job was Due, of those that are told to it; it is
// evaluated at each of them.
func told(j api.Job, times ...int64) []int64 {
	var l []int64
	for _, now := range times {
		if len(sched.Due(now, j)) > 0 {
			l = append(l, now)
			j.Last = now
		}
	}
	return l
}

// moments is the job's first ones, counted by themselves.
func moments(j api.Job, number int) []int64 {
	var l []int64
	for at := j.Offset; len(l) < number; at += j.Interval {
		l = append(l, at)
	}
	return l
}

// P19.5: told of at each time, so at each moment.
func TestEachMomentWhenEachTimeIsTold(t *testing.T) {
	var all []int64
	for now := range int64(100) {
		all = append(all, now)
	}
	for interval := int64(1); interval <= 25; interval++ {
		for offset := range interval {
			j := job(interval, offset)
			want := moments(j, int((99-offset)/interval)+1)
			if got := told(j, all...); !slices.Equal(got, want) {
				t.Fatalf("%+v: Due at %v, want %v", j, got, want)
			}
			if len(told(paused(j), all...)) > 0 {
				t.Fatalf("%+v: paused, and Due", j)
			}
		}
	}
}

// P19.5: told of at each moment, and at some times in between, or none.
func TestEachMomentAmongOtherTimes(t *testing.T) {
	r := rand.New(rand.NewSource(196))
	for range 2000 {
		j := job(oneOf(r, 1, 2, 1+r.Int63n(100), maxInterval), 0)
		j.Offset = oneOf(r, 0, j.Interval-1, r.Int63n(j.Interval))
		want := moments(j, 30)
		times := slices.Clone(want)
		for range oneOf(r, 0, 10, 100) {
			times = append(times, r.Int63n(want[29]+1)) // some of them moments too, told of twice
		}
		slices.Sort(times)
		if got := told(j, times...); !slices.Equal(got, want) {
			t.Fatalf("%+v, told of %v: Due at %v, want %v", j, times, got, want)
		}
	}
}

// P19.5: of a job that was evaluated ahead of it all, from the moment behind Last
// on; up to the last time that there is.
func TestEachMomentFromLastOn(t *testing.T) {
	r := rand.New(rand.NewSource(197))
	for range 2000 {
		j := job(1+r.Int63n(20), 0)
		j.Offset = r.Int63n(j.Interval)
		first := oneOf(r, 0, r.Int63n(1000), r.Int63n(maxTime-300), maxTime-300)
		j.Last = first
		var times, want []int64
		for now := first; now <= first+300; now++ {
			times = append(times, now)
			if now > first && now >= j.Offset && (now-j.Offset)%j.Interval == 0 {
				want = append(want, now)
			}
		}
		if got := told(j, times...); !slices.Equal(got, want) {
			t.Fatalf("%+v: Due at %v, want %v", j, got, want)
		}
	}
}

// P19.5: a time that was told of too late counts for the moments ahead of it, and
// shifts none behind it.
func TestAMissedMomentShiftsNone(t *testing.T) {
	got := told(job(10, 3), 0, 5, 6, 12, 13, 14, 37, 38, 42, 43, 44, 53, 99, 100, 103)
	if want := []int64{5, 13, 37, 43, 53, 99, 103}; !slices.Equal(got, want) {
		t.Errorf("Due at %v, want %v", got, want)
	}
}

// P19.5: of several jobs, of which Wake tells the times: each at its moments, as
// if it were alone.
func TestEachMomentOfSeveralByWake(t *testing.T) {
	r := rand.New(rand.NewSource(198))
	for range 300 {
		var l []api.Job
		at := make([][]int64, 1+r.Intn(6))
		for i := range at {
			j := job(1+r.Int63n(15), 0)
			j.Offset, j.Id = r.Int63n(j.Interval), int64(i)
			l = append(l, j)
		}
		for asked := int64(0); asked <= 200; asked++ {
			now, ok := sched.Wake(asked, l...)
			if !ok || now < asked {
				t.Fatalf("Wake(%d, %+v): %d, %v", asked, l, now, ok)
			}
			if now > 200 {
				break
			}
			asked = now
			for _, j := range sched.Due(now, l...) {
				at[j.Id] = append(at[j.Id], now)
				l[j.Id].Last = now
			}
		}
		for i, j := range l {
			if want := moments(j, int((200-j.Offset)/j.Interval)+1); !slices.Equal(at[i], want) {
				t.Fatalf("%+v: Due at %v, want %v", j, at[i], want)
			}
		}
	}
}
