package sched_test

import (
	"math"
	"math/rand"
	"slices"
	"testing"

	"klaxon/api"
	"klaxon/sched"
)

// roomy is the list with spare room behind it, in which x stands.
func roomy[T any](x T, l ...T) []T {
	return append(slices.Clone(l), x, x)[:len(l)]
}

// whole is the list with its spare room.
func whole[T any](l []T) []T { return l[:cap(l)] }

// scribble spoils all of a list, its spare room too.
func scribble[T any](l []T, x T) {
	for i := range whole(l) {
		whole(l)[i] = x
	}
}

func anyJobs(r *rand.Rand, number int) []api.Job {
	var l []api.Job
	for range number {
		l = append(l, anyJob(r))
	}
	return l
}

// P19.1 to P19.4: what is handed in is not changed, its spare room neither, and
// what is answered shares nothing with it, nor with another answer.
func TestNothingIsChangedAndNothingShared(t *testing.T) {
	r := rand.New(rand.NewSource(199))
	spoilt := api.Job{Folder: "spoilt", Interval: 77, Last: 77}
	for _, number := range []int{0, 1, 2, 3, 12, 13, 50, 200} {
		for range 20 {
			l := roomy(spoilt, anyJobs(r, number)...)
			ahead := slices.Clone(whole(l))
			now := r.Int63n(45)
			want := saidDue(now, l)
			first, second := sched.Due(now, l...), sched.Due(now, l...)
			sched.Wake(now, l...)
			for _, j := range l {
				one := j
				sched.Slot(j, now)
				sched.Next(j, now)
				if j != one {
					t.Fatalf("changed: %+v, was %+v", j, one)
				}
			}
			if !slices.Equal(whole(l), ahead) {
				t.Fatalf("changed what was handed in: %+v, was %+v", whole(l), ahead)
			}
			scribble(first, spoilt)
			if !slices.Equal(whole(l), ahead) {
				t.Fatalf("an answer shares something with what was handed in: %+v", whole(l))
			}
			scribble(l, api.Job{})
			if !slices.Equal(second, want) {
				t.Fatalf("two answers share something: %+v, want %+v", second, want)
			}
		}
	}
}

// P19.2, P19.4: nil and an empty list are the same.
func TestNilAndEmpty(t *testing.T) {
	for _, l := range [][]api.Job{nil, {}, make([]api.Job, 0, 4)} {
		due(t, "none", 0, l)
		due(t, "none", 100, l)
		wakesNever(t, "none", 0, l...)
		wakesNever(t, "none", 100, l...)
	}
	due(t, "without any", 100, nil)
	if at, ok := sched.Wake(100); at != 0 || ok {
		t.Errorf("Wake: %d, %v", at, ok)
	}
	if got := sched.Due(100); len(got) > 0 {
		t.Errorf("Due: %+v", got)
	}
}

// The fourth rule that holds everywhere: a call answers what it did ahead,
// whatever was asked in between.
func TestNothingIsKept(t *testing.T) {
	type call struct {
		now int64
		l   []api.Job
	}
	r := rand.New(rand.NewSource(200))
	var calls []call
	var dues [][]api.Job
	var times []int64
	for range 500 {
		c := call{r.Int63n(45), anyJobs(r, 1+r.Intn(20))}
		at, _ := sched.Wake(c.now, c.l...)
		calls, dues, times = append(calls, c), append(dues, sched.Due(c.now, c.l...)), append(times, at)
	}
	for _, i := range r.Perm(len(calls)) {
		c := calls[i]
		due(t, "again", c.now, c.l, dues[i]...)
		if at, _ := sched.Wake(c.now, c.l...); at != times[i] {
			t.Errorf("Wake(%d, %+v): %d, and ahead %d", c.now, c.l, at, times[i])
		}
	}
}

// The first rule that holds everywhere: each call ends, and none panics, also at
// what the chapter says nothing of; and it answers the same again.
func TestAtAllArguments(t *testing.T) {
	var l []api.Job
	for _, interval := range strange() {
		for _, offset := range strange() {
			for _, at := range strange() {
				l = append(l, api.Job{Folder: "\xff", Id: -at, Interval: interval, Offset: offset, Last: at})
			}
		}
	}
	for _, now := range strange() {
		for _, j := range l {
			if a, b := sched.Slot(j, now), sched.Slot(j, now); a != b {
				t.Fatalf("Slot(%+v, %d): %d, and again %d", j, now, a, b)
			}
			if a, b := sched.Next(j, now), sched.Next(j, now); a != b {
				t.Fatalf("Next(%+v, %d): %d, and again %d", j, now, a, b)
			}
			if a, b := sched.Due(now, j), sched.Due(now, j); !slices.Equal(a, b) {
				t.Fatalf("Due(%d, %+v): %+v, and again %+v", now, j, a, b)
			}
			wakesNever(t, "paused", now, paused(j))
			due(t, "paused", now, []api.Job{paused(j)})
		}
		first := sched.Due(now, l...)
		due(t, "again", now, l, first...)
		at, ok := sched.Wake(now, l...)
		if again, there := sched.Wake(now, l...); at != again || ok != there {
			t.Fatalf("Wake(%d): %d, %v, and again %d, %v", now, at, ok, again, there)
		}
	}
}

// P19.2, P19.4: Paused jobs have no part, also such as may not be.
func TestStrangePausedJobsBesideAnother(t *testing.T) {
	j := last(job(10, 3), 3)
	for _, n := range []int64{0, -1, -10, math.MinInt64} {
		none := api.Job{Folder: "a", Interval: n, Offset: 3, Last: 3, Paused: true}
		due(t, "beside one that may not be", 13, []api.Job{none, j, none}, j)
		wakes(t, "beside one that may not be", 4, []api.Job{none, j, none}, 13)
	}
}

// Goroutines may ask at the same time: the calls share nothing.
func TestCallsAtOneTime(t *testing.T) {
	shared := anyJobs(rand.New(rand.NewSource(201)), 60)
	done := make(chan []api.Job)
	for range 8 {
		go func() {
			var all []api.Job
			for now := range int64(200) {
				all = append(all, sched.Due(now, shared...)...)
				at, _ := sched.Wake(now, shared...)
				all = append(all, job(1, at))
			}
			done <- all
		}()
	}
	first := <-done
	for range 7 {
		if all := <-done; !slices.Equal(all, first) {
			t.Error("unlike one another")
		}
	}
}
