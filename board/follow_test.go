package board_test

import (
	"math/rand"
	"slices"
	"testing"

	"klaxon/api"
	"klaxon/board"
)

func isThere(b []api.Entry, l []api.Label) bool {
	return slices.ContainsFunc(b, func(x api.Entry) bool { return slices.Equal(x.Labels, l) })
}

// P18.5: from a board of none on, through evaluations of which some take away.
func TestUpdateOfABoardIsABoard(t *testing.T) {
	r := rand.New(rand.NewSource(185))
	stands, gone, came := 0, 0, 0
	for range 500 {
		anyScript(r, 15, func(u update) []api.Entry {
			b, c := u.do()
			if err := board.Check(b); err != api.OK {
				t.Fatalf("%s comes to no board: %s, error %d", brief(u), brief(b), err)
			}
			for i, x := range c {
				was, is := isThere(u.b, x.Labels), isThere(b, x.Labels)
				if !was && !is {
					t.Fatalf("%s: a change of what is not there: %s", brief(u), brief(x))
				}
				if x.From == x.To || !was && x.From != api.StateNormal || !is && (x.To != api.StateNormal || x.Value != null) {
					t.Fatalf("%s: a change that is none: %s", brief(u), brief(x))
				}
				if i > 0 && saidOrder(c[i-1].Labels, x.Labels) >= 0 {
					t.Fatalf("%s: changes that fall: %s", brief(u), brief(c))
				}
				switch {
				case was && is:
					stands++
				case was:
					gone++
				default:
					came++
				}
			}
			return b
		})
	}
	if min(stands, gone, came) < 1000 {
		t.Errorf("%d changes of what stands, %d of what is gone, %d of what came", stands, gone, came)
	}
}

// P18.5: of a board that no evaluation left, at a time that is not ahead of its
// times.
func TestUpdateOfAnyBoardIsABoard(t *testing.T) {
	r := rand.New(rand.NewSource(186))
	for range 2000 {
		u := update{b: anyBoard(r), h: anyHolds(r), own: anyOwn(r), interval: 1 + r.Int63n(api.MaxInterval), now: maxTime, l: anyResults(r)}
		b, c := u.do()
		if err := board.Check(b); err != api.OK {
			t.Fatalf("%s comes to no board: %s, error %d", brief(u), brief(b), err)
		}
		for _, x := range c {
			if !isThere(u.b, x.Labels) && !isThere(b, x.Labels) {
				t.Fatalf("%s: a change of what is not there: %s", brief(u), brief(x))
			}
		}
		if len(b) > len(u.b)+len(u.l) || len(b) > api.MaxInstances {
			t.Fatalf("%s: %d entries", brief(u), len(b))
		}
	}
}

// P18.6: of boards as evaluations leave them, and of any.
func TestGetOfPutIsTheBoard(t *testing.T) {
	r := rand.New(rand.NewSource(187))
	thereAndBack := func(b []api.Entry) {
		t.Helper()
		p, err := board.Put(b)
		if err != api.OK {
			t.Fatalf("Put of %s: error %d", brief(b), err)
		}
		if got, err := board.Get(p); err != api.OK || !sameBoard(got, b) {
			t.Fatalf("Get of Put of %s: %s, error %d", brief(b), brief(got), err)
		}
	}
	for range 150 {
		anyScript(r, 15, func(u update) []api.Entry {
			b, _ := u.do()
			thereAndBack(b)
			return b
		})
	}
	for range 1500 {
		thereAndBack(anyBoard(r))
	}
	for n := range api.MaxInstances + 1 {
		thereAndBack(many(n))
	}
}

// P18.6: that a board went through its bytes changes nothing of what comes.
func TestABoardGoesOnFromItsBytes(t *testing.T) {
	r := rand.New(rand.NewSource(188))
	for range 200 {
		anyScript(r, 15, func(u update) []api.Entry {
			b, c := u.do()
			p, _ := board.Put(u.b)
			u.b, _ = board.Get(p)
			again, changes := u.do()
			if !sameBoard(b, again) || !sameChanges(c, changes) {
				t.Fatalf("%s: %s, and from its bytes %s", brief(u), brief(b), brief(again))
			}
			return b
		})
	}
}
