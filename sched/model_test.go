package sched_test

import (
	"math/rand"
	"slices"
	"testing"

	"klaxon/api"
	"klaxon/sched"
)

// What the document says, read a second time: each time is asked for itself.

// saidMoment is whether that time is one of the job's moments.
func saidMoment(j api.Job, at int64) bool {
	for at > j.Offset {
		at -= j.Interval
	}
	return at == j.Offset
}

// saidSlot is P19.1.
func saidSlot(j api.Job, t int64) int64 {
	n := int64(-1)
	for at := range t + 1 {
		if saidMoment(j, at) {
			n++
		}
	}
	return n
}

// saidNext is P19.3.
func saidNext(j api.Job, now int64) int64 {
	at := now + 1
	for !saidMoment(j, at) {
		at++
	}
	return at
}

func saidIsDue(j api.Job, now int64) bool {
	for at := j.Last + 1; at <= now; at++ {
		if saidMoment(j, at) {
			return !j.Paused
		}
	}
	return false
}

// saidAhead is whether the bytes of one text stand ahead of those of the other.
func saidAhead(a, b string) bool {
	for i := range len(a) {
		if i == len(b) || a[i] > b[i] {
			return false
		}
		if a[i] < b[i] {
			return true
		}
	}
	return len(a) < len(b)
}

func saidFirst(a, b api.Job) bool {
	switch {
	case a.Folder != b.Folder:
		return saidAhead(a.Folder, b.Folder)
	case a.Group != b.Group:
		return saidAhead(a.Group, b.Group)
	}
	return a.Id < b.Id
}

// saidDue is P19.2: again and again the first one that no other one stands ahead
// of.
func saidDue(now int64, l []api.Job) []api.Job {
	var left, order []api.Job
	for _, j := range l {
		if saidIsDue(j, now) {
			left = append(left, j)
		}
	}
	for len(left) > 0 {
		best := 0
		for i, j := range left {
			if saidFirst(j, left[best]) {
				best = i
			}
		}
		order = append(order, left[best])
		left = slices.Delete(left, best, best+1)
	}
	return order
}

// saidWake is P19.4.
func saidWake(now int64, l []api.Job) (int64, bool) {
	if !slices.ContainsFunc(l, func(j api.Job) bool { return !j.Paused }) {
		return 0, false
	}
	for !slices.ContainsFunc(l, func(j api.Job) bool { return saidIsDue(j, now) }) {
		now++
	}
	return now, true
}

// asked asks all four calls against the second reading.
func asked(t *testing.T, now int64, l []api.Job) {
	t.Helper()
	for _, j := range l {
		if got, want := sched.Slot(j, now), saidSlot(j, now); got != want {
			t.Fatalf("Slot(%+v, %d): %d, want %d", j, now, got, want)
		}
		if got, want := sched.Next(j, now), saidNext(j, now); got != want {
			t.Fatalf("Next(%+v, %d): %d, want %d", j, now, got, want)
		}
	}
	if got, want := sched.Due(now, l...), saidDue(now, l); !slices.Equal(got, want) {
		t.Fatalf("Due(%d, %+v):\n%+v, want\n%+v", now, l, got, want)
	}
	at, ok := sched.Wake(now, l...)
	if want, there := saidWake(now, l); at != want || ok != there {
		t.Fatalf("Wake(%d, %+v): %d, %v, want %d, %v", now, l, at, ok, want, there)
	}
}

// P19.1 to P19.4: of each job that is short, at each time that is near.
func TestAllShortJobsAgainstASecondReading(t *testing.T) {
	for interval := int64(1); interval <= 6; interval++ {
		for offset := range interval {
			for at := int64(never); at <= 20; at++ {
				for now := range int64(20) {
					asked(t, now, []api.Job{last(job(interval, offset), at)})
				}
			}
		}
	}
}

// anyJob is one among few names and short times, so that many are alike.
func anyJob(r *rand.Rand) api.Job {
	text := func() string { return oneOf(r, "", "a", "a", "b", "ab", "ba", "a\x00", "A", "\xff", "é") }
	j := job(1+r.Int63n(12), 0)
	j.Folder, j.Group, j.Id = text(), text(), oneOf(r, 1, 2, 9, 10, r.Int63n(200))
	j.Offset = oneOf(r, 0, j.Interval-1, r.Int63n(j.Interval))
	j.Last = oneOf(r, never, r.Int63n(40), r.Int63n(40))
	j.Paused = r.Intn(4) == 0
	return j
}

// P19.1 to P19.4: of several jobs at random.
func TestManyJobsAgainstASecondReading(t *testing.T) {
	r := rand.New(rand.NewSource(193))
	alike, number := 0, 0
	for range 3000 {
		var l []api.Job
		for range oneOf(r, r.Intn(4), r.Intn(20), 40) {
			l = append(l, anyJob(r))
		}
		now := r.Int63n(45)
		asked(t, now, l)
		d := sched.Due(now, l...)
		for i := range d[min(1, len(d)):] {
			if a, b := d[i], d[i+1]; a != b && !saidFirst(a, b) && !saidFirst(b, a) {
				alike++
			}
		}
		number += len(d)
	}
	if number < 10000 || alike < 100 {
		t.Errorf("%d due, %d alike", number, alike)
	}
}

// anyTime is one of all times that there are.
func anyTime(r *rand.Rand) int64 {
	return oneOf(r, 0, 1, r.Int63n(100), r.Int63n(maxInterval), r.Int63n(maxTime), maxTime-r.Int63n(100), maxTime)
}

func anyLongJob(r *rand.Rand) api.Job {
	j := job(oneOf(r, 1, 2, 1+r.Int63n(maxInterval), maxInterval), 0)
	j.Offset = oneOf(r, 0, j.Interval-1, r.Int63n(j.Interval))
	j.Last = oneOf(r, never, anyTime(r), anyTime(r))
	return j
}

// P19.1 to P19.4: at all times that there are, of which each moment cannot be
// asked for itself: by the moments round the one that is told.
func TestLongJobs(t *testing.T) {
	r := rand.New(rand.NewSource(194))
	for range 200000 {
		j, now := anyLongJob(r), anyTime(r)
		n := sched.Slot(j, now)
		if n < -1 || n >= 0 && j.Offset+n*j.Interval > now || j.Offset+(n+1)*j.Interval <= now {
			t.Fatalf("Slot(%+v, %d): %d", j, now, n)
		}
		next := sched.Next(j, now)
		if next <= now || sched.Slot(j, next) != n+1 || sched.Slot(j, next-1) != n {
			t.Fatalf("Next(%+v, %d): %d, and Slot %d", j, now, next, n)
		}
		after := sched.Next(j, j.Last)
		if got := len(sched.Due(now, j)) == 1; got != (after <= now) {
			t.Fatalf("Due(%d, %+v): %v, and the moment behind Last is %d", now, j, got, after)
		}
		if at, ok := sched.Wake(now, j); !ok || at != max(now, after) {
			t.Fatalf("Wake(%d, %+v): %d, %v", now, j, at, ok)
		}
	}
}

// P19.4: at what Wake tells, one is Due, and at no time ahead of it.
func TestWakeTellsWhenOneIsDue(t *testing.T) {
	r := rand.New(rand.NewSource(195))
	later := 0
	for range 20000 {
		var l []api.Job
		for range 1 + r.Intn(5) {
			l = append(l, anyLongJob(r))
		}
		now := anyTime(r)
		at, _ := sched.Wake(now, l...)
		if len(sched.Due(at, l...)) == 0 {
			t.Fatalf("Wake(%d, %+v): %d, at which none is Due", now, l, at)
		}
		if at == now {
			continue
		}
		later++
		for _, ahead := range []int64{at - 1, now, now + (at-now)/2} {
			if ahead < at && len(sched.Due(ahead, l...)) > 0 {
				t.Fatalf("Wake(%d, %+v): %d, and at %d one is Due", now, l, at, ahead)
			}
		}
	}
	if later < 1000 {
		t.Errorf("%d later ones", later)
	}
}
