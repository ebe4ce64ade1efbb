package board_test

import (
	"bytes"
	"math"
	"math/rand"
	"reflect"
	"slices"
	"testing"

	"klaxon/api"
	"klaxon/board"
)

// roomy is the list with spare room behind it, in which x stands.
func roomy[T any](x T, l ...T) []T {
	return append(slices.Clone(l), x, x)[:len(l)]
}

// whole is the list with its spare room.
func whole[T any](l []T) []T { return l[:cap(l)] }

func spareLabels(l []api.Label) []api.Label {
	return roomy(api.Label{Name: "spare", Value: "spare"}, l...)
}

// roomyBoard is a board in which each list has spare room.
func roomyBoard(b []api.Entry) []api.Entry {
	b = roomy(entry(host("spare"), seenAt(3, 9)), b...)
	for i := range b {
		b[i].Labels = spareLabels(b[i].Labels)
	}
	return b
}

func roomyUpdate(u update) update {
	u.b, u.own = roomyBoard(u.b), spareLabels(u.own)
	u.l = roomy(result(host("spare"), 2, num(1)), u.l...)
	for i := range u.l {
		u.l[i].Labels = spareLabels(u.l[i].Labels)
	}
	return u
}

// deepBoard is a board with the spare room of its lists, as a copy that shares
// nothing.
func deepBoard(b []api.Entry) []api.Entry {
	b = slices.Clone(whole(b))
	for i := range b {
		b[i].Labels = slices.Clone(whole(b[i].Labels))
	}
	return b
}

func deepUpdate(u update) update {
	u.b, u.own, u.l = deepBoard(u.b), slices.Clone(whole(u.own)), slices.Clone(whole(u.l))
	for i := range u.l {
		u.l[i].Labels = slices.Clone(whole(u.l[i].Labels))
	}
	return u
}

// scribble spoils all of a list, its spare room too.
func scribble[T any](l []T, x T) {
	for i := range whole(l) {
		whole(l)[i] = x
	}
}

func scribbleBoard(b []api.Entry) {
	for _, x := range whole(b) {
		scribble(x.Labels, api.Label{Name: "scribble", Value: "scribble"})
	}
	scribble(b, entry(host("scribble"), api.Instance{}))
}

func scribbleChanges(c []api.Change) {
	for _, x := range whole(c) {
		scribble(x.Labels, api.Label{Name: "scribble", Value: "scribble"})
	}
	scribble(c, change(host("scribble"), 77, 77, null))
}

// updates is what Update may be handed: with something of each, and at random.
func updates() []update {
	l := []update{
		{interval: 1}, at100(nil), at100(hosts(90)), at100(hosts(80)), at100(many(api.MaxInstances), alerting(5, 500)...), at100(nil, alerting(9, 8, 7)...),
		at100(hosts(90), result(nil, api.ResError, null)), at100(hosts(90), result(nil, api.ResNoData, null)).with(host("1")...),
		at100(hosts(90), result(list("z", "1", "a", "1", "h", "1"), 2, num(1)), result(wide(api.MaxLabels), 1, nan), result(list("", ""), 1, nan)).with(list("h", "2", "own", "1")...),
	}
	r := rand.New(rand.NewSource(189))
	for range 30 {
		anyScript(r, 10, func(u update) []api.Entry {
			l = append(l, u)
			b, _ := u.do()
			return b
		})
	}
	return l
}

// P18.2, P18.3: what is handed in is not changed.
func TestUpdateChangesNothing(t *testing.T) {
	for _, u := range updates() {
		u = roomyUpdate(u)
		ahead := deepUpdate(u)
		u.do()
		if !reflect.DeepEqual(deepUpdate(u), ahead) {
			t.Fatalf("changed what was handed in: %s, was %s", brief(deepUpdate(u)), brief(ahead))
		}
	}
}

// P18.2, P18.3: what is answered is new each time, and shares nothing with what
// was handed in; no two lists of an answer share anything.
func TestUpdateSharesNothing(t *testing.T) {
	for _, u := range updates() {
		want, changes := u.do()
		want = deepBoard(want[:len(want):len(want)])

		mine := roomyUpdate(u)
		ahead := deepUpdate(mine)
		first, c := mine.do()
		second, d := mine.do()
		scribbleBoard(first)
		if !reflect.DeepEqual(deepUpdate(mine), ahead) {
			t.Fatalf("a board shares something with what was handed in: %s", brief(u))
		}
		if !sameChanges(c, changes) {
			t.Fatalf("a board and its changes share something: %s", brief(u))
		}
		scribbleChanges(c)
		if !reflect.DeepEqual(deepUpdate(mine), ahead) {
			t.Fatalf("changes share something with what was handed in: %s", brief(u))
		}
		scribbleBoard(mine.b)
		scribble(mine.own, api.Label{})
		for _, x := range whole(mine.l) {
			scribble(x.Labels, api.Label{})
		}
		scribble(mine.l, api.Result{})
		if !sameBoard(second, want) || !sameChanges(d, changes) {
			t.Fatalf("two answers share something: %s", brief(u))
		}
		for i := range second {
			scribble(second[i].Labels, api.Label{Name: "scribble"})
			for j := range second {
				if j > i && !slices.Equal(second[j].Labels, want[j].Labels) {
					t.Fatalf("two entries share something: %s", brief(u))
				}
			}
		}
		for i := range d {
			scribble(d[i].Labels, api.Label{Name: "scribble"})
			if i+1 < len(d) && !slices.Equal(d[i+1].Labels, changes[i+1].Labels) {
				t.Fatalf("two changes share something: %s", brief(u))
			}
		}
	}
}

// P18.1, P18.4: boards that are handed in are not changed, those that are refused
// neither, and bytes that are answered are new.
func TestCheckAndPutChangeAndShareNothing(t *testing.T) {
	turned, wrong := hosts(90), hosts(90)
	slices.Reverse(turned)
	wrong[2].Labels = list("z", "1", "a", "1", "m", "1")
	for _, b := range [][]api.Entry{nil, someBoard(), hosts(90), many(api.MaxInstances), many(api.MaxInstances + 1), turned, wrong} {
		b = roomyBoard(b)
		ahead := deepBoard(b)
		board.Check(b)
		first, err := board.Put(b)
		again, _ := board.Put(b)
		if !reflect.DeepEqual(deepBoard(b), ahead) {
			t.Fatalf("changed what was handed in: %s, was %s", brief(deepBoard(b)), brief(ahead))
		}
		if !bytes.Equal(first, again) {
			t.Fatalf("unlike the second time: %q, %q", first, again)
		}
		scribble(first, 0xa5)
		if err == api.OK && string(again) != saidBoard(b) {
			t.Fatalf("two answers share something: %q", again)
		}
	}
}

// P18.4: bytes that are handed in are not changed and not kept, and boards that
// are answered are new.
func TestGetChangesAndSharesNothing(t *testing.T) {
	want := many(20)
	want[19].Labels = wide(api.MaxLabels - 3)
	for _, cut := range []int{0, 1, 20} {
		s := saidBoard(want)
		b := roomy(0xee, []byte(s[:len(s)-cut])...)
		ahead := slices.Clone(whole(b))
		first, err := board.Get(b)
		again, _ := board.Get(b)
		if !bytes.Equal(whole(b), ahead) {
			t.Fatalf("changed what was handed in: %q", whole(b))
		}
		if !reflect.DeepEqual(first, again) {
			t.Fatalf("unlike the second time: %s, %s", brief(first), brief(again))
		}
		scribble(b, 0xa5)
		scribbleBoard(first)
		if cut == 0 && (err != api.OK || !sameBoard(again, want)) {
			t.Fatalf("something is shared: %s", brief(again))
		}
		for i := range again {
			scribble(again[i].Labels, api.Label{Name: "scribble"})
			if i+1 < len(again) && !slices.Equal(again[i+1].Labels, want[i+1].Labels) {
				t.Fatalf("two entries share something: %s", brief(again))
			}
		}
	}
}

// P18.1, P18.2, P18.4: nil and an empty list are the same.
func TestNilAndEmpty(t *testing.T) {
	noLabels := [][]api.Label{nil, {}, make([]api.Label, 0, 4)}
	for _, b := range [][]api.Entry{nil, {}, make([]api.Entry, 0, 4)} {
		accepts(t, "none", b)
		for _, own := range noLabels {
			for _, l := range noLabels {
				comes(t, "of a board of none", at100(b, result(l, api.ResError, num(1))).with(own...),
					[]api.Entry{entry(nil, instance(5, 100, 100, num(1)))}, change(nil, 1, 5, num(1)))
				comes(t, "of all", at100(hosts(90)[:1], result(l, api.ResError, num(1))).with(own...),
					[]api.Entry{entry(host("1"), instance(5, 100, 100, num(1)))}, change(host("1"), 1, 5, num(1)))
			}
		}
	}
	for _, one := range noLabels {
		accepts(t, "without Labels", []api.Entry{entry(one, seenAt(1, 9))})
		for _, other := range noLabels {
			comes(t, "of one without Labels", at100([]api.Entry{entry(one, seenAt(1, 3))}, result(other, api.ResAlert, num(1))),
				[]api.Entry{entry(nil, instance(3, 100, 100, num(1)))}, change(nil, 1, 3, num(1)))
		}
	}
}

// The fourth rule that holds everywhere: a call answers what it did ahead,
// whatever was asked in between, and in whichever order a map is gone through.
func TestNothingIsKept(t *testing.T) {
	l := updates()
	type told struct {
		b []api.Entry
		c []api.Change
	}
	var first []told
	for _, u := range l {
		b, c := u.do()
		first = append(first, told{b, c})
	}
	r := rand.New(rand.NewSource(190))
	for range 3 {
		for _, i := range r.Perm(len(l)) {
			b, c := l[i].do()
			if !reflect.DeepEqual(told{b, c}, first[i]) {
				t.Fatalf("%s: %s, and ahead %s", brief(l[i]), brief(told{b, c}), brief(first[i]))
			}
		}
	}
}

// The first rule that holds everywhere: each call ends, and none panics, also at
// what the chapter says nothing of; and it answers the same again.
func TestAtAllArguments(t *testing.T) {
	turned := hosts(90)
	slices.Reverse(turned)
	wrong := []api.Entry{{}, {Labels: list("", "")}, {Labels: list("b", "1", "a", "1")}, {Labels: list("", "")}, {Labels: noSets()[5], Instance: unmaking()[4]}}
	for _, b := range [][]api.Entry{nil, hosts(90), turned, wrong, many(250), make([]api.Entry, 300)} {
		for _, own := range append(noSets(), nil, list("a", "1", "a", "2")) {
			for _, at := range []int64{0, -1, 5, maxTime + 1, math.MaxInt64, math.MinInt64} {
				u := update{b: b, own: own, interval: -at, now: at, h: api.Holds{For: at, Keep: -at, NoData: int(at), OnError: 7}}
				u.l = []api.Result{{}, result(list("", ""), 3, api.Value{Kind: 9}), result(nil, -2, null), result(host("1"), 2, num(math.MinInt64))}
				c, d := u.do()
				again, changes := u.do()
				if !reflect.DeepEqual(c, again) || !reflect.DeepEqual(d, changes) {
					t.Fatalf("%s: %s, and again %s", brief(u), brief(c), brief(again))
				}
				u.l = []api.Result{result(nil, api.ResError, api.Value{})}
				u.do()
			}
		}
	}
}

// Goroutines may ask at the same time: the calls share nothing.
func TestCallsAtOneTime(t *testing.T) {
	shared := many(50)
	done := make(chan string)
	for range 8 {
		go func() {
			b := shared
			for now := range int64(100) {
				u := at100(b, alerting(int(now), 60)...)
				u.now += now
				b, _ = u.do()
			}
			p, _ := board.Put(b)
			done <- string(p)
		}()
	}
	first := <-done
	for range 7 {
		if p := <-done; p != first {
			t.Errorf("%q, and %q", p, first)
		}
	}
}
