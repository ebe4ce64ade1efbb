package rules_test

import (
	"math/rand"
	"strconv"
	"testing"

	"klaxon/api"
)

// asks is all calls of a user of the folder open, which that user may edit, and
// of the folder shut, and those of no folder.
func asks(u api.User) []call {
	l := []call{foldersOf(u), addFolder(u, "shut"), addFolder(u, "open"), addFolder(u, "new"), addFolder(u, "No")}
	for _, name := range []string{"open", "shut", "new", "No"} {
		l = append(l, folderOf(u, name), list(u, name), setGrants(u, name, toUser(u.Name, 3)), setGrants(u, name, toUser("No", 3)),
			create(u, 1, some(name, "t")), create(u, 1, some(name, "")), create(u, -1, some(name, "t")))
		for id := int64(-1); id < 4; id++ {
			l = append(l, get(u, name, id), history(u, name, id))
			for n := int64(0); n < 3; n++ {
				l = append(l, update(u, 1, id, n, some(name, "u")), update(u, 1, id, n, some(name, "")), remove(u, 1, name, id, n))
			}
		}
	}
	return l
}

// steps is what others do in the folder shut, which bob may not read at any
// time.
func steps() []call {
	l := []call{
		addFolder(root(), "shut"), create(root(), 1, full("shut", "t")), create(root(), 2, some("shut", "t")),
		setGrants(root(), "shut", toUser("ann", 3), toTeam("bob", 3), toRole("editor", 3)),
		update(ann(), 3, 1, 1, some("shut", "u")), remove(ann(), 4, "shut", 2, 1), setGrants(ann(), "shut"),
	}
	for range api.MaxRules {
		l = append(l, create(root(), 5, some("shut", "t")))
	}
	return l
}

// P16.7: whatever others have done in a folder that a user may not read, each
// call of that user answers the same; and so does what comes behind it.
func TestNobodySees(t *testing.T) {
	answers := func(done int) []answer {
		w := fresh(t)
		w.folder("open", toUser("bob", api.LevelEdit))
		for _, c := range steps()[:done] {
			w.do("a step", c)
			w.do("a rule in between", create(bob(), 1, some("open", "t")))
			w.do("and gone", remove(bob(), 1, "open", 1, 1))
		}
		// As many rules of bob's in each world.
		for range len(steps()) - done {
			w.do("a rule in between", create(bob(), 1, some("open", "t")))
			w.do("and gone", remove(bob(), 1, "open", 1, 1))
		}
		var l []answer
		for _, c := range asks(bob()) {
			l = append(l, w.do("bob asks", c))
		}
		return l
	}
	want := answers(0)
	for done := 1; done <= len(steps()); done++ {
		for i, a := range answers(done) {
			if !same(a, want[i]) {
				t.Fatalf("behind %d steps: %s: %s, without them %s", done, brief(asks(bob())[i]), brief(a), brief(want[i]))
			}
		}
	}
}

// P16.7: a folder from which a user's right was taken is to that user as one
// that never was.
func TestNobodySeesAnyMore(t *testing.T) {
	w, never := ops(t, 3), fresh(t)
	w.wants("SetGrants", setGrants(root(), "ops"), api.OK)
	for _, c := range asks(ann()) {
		if c.name == "AddFolder" || c.name == "Folders" {
			continue
		}
		c = c.in("ops")
		if got, want := w.do("ops", c), never.do("no ops", c); !same(got, want) {
			t.Errorf("%s: %s, want %s", brief(c), brief(got), brief(want))
		}
	}
}

func oneOf[T any](r *rand.Rand, l ...T) T { return l[r.Intn(len(l))] }

// anyCall is a call that is mostly OK: of folders and rules that mostly are
// there, with numbers that mostly are the last ones.
func anyCall(r *rand.Rand, m model, u api.User, folder string) call {
	f := m[folder]
	id := int64(r.Intn(len(f.rules)+1)) + int64(r.Intn(2))
	v, _ := f.last(id)
	number := v.Number
	if r.Intn(6) == 0 {
		number += int64(r.Intn(5) - 2)
	}
	at := oneOf(r, r.Int63n(maxTime+1), r.Int63n(100), 0, maxTime)
	if r.Intn(40) == 0 {
		at = oneOf(r, -1, maxTime+1)
	}
	x := oneOf(r, some, full)(folder, strconv.Itoa(r.Intn(1000)))
	if r.Intn(20) == 0 {
		c := create(u, at, x)
		oneOf(r, ruleFaults()...).do(&c)
		x = c.rule
	}
	return oneOf(r,
		create(u, at, x), create(u, at, x), create(u, at, x), create(u, at, x), update(u, at, id, number, x), update(u, at, id, number, x), update(u, at, id, number, x),
		remove(u, at, folder, id, number), get(u, folder, id), history(u, folder, id), list(u, folder), folderOf(u, folder), foldersOf(u), all())
}

func anyUser(r *rand.Rand) api.User {
	if r.Intn(60) == 0 {
		return oneOf(r, noUsers()...)
	}
	return oneOf(r, root(), root(), ann(), ann(), bob(), user("eve", "viewer", "red"), user("kim", "editor"))
}

func anyGrants(r *rand.Rand) []api.Grant {
	var l []api.Grant
	for range r.Intn(5) {
		l = append(l, oneOf(r, toUser, toTeam, toRole)(oneOf(r, "ann", "bob", "red", "blue", "viewer", "editor", "viewer", "editor"), 1+r.Intn(3)))
	}
	return l
}

// anyStep is any call, of a folder that is mostly there.
func anyStep(r *rand.Rand, m model) call {
	u := anyUser(r)
	folder := oneOf(r, "a", "a", "a", "a-b", "ab", "ops", "abcdefgh", "abcdefghi")
	if r.Intn(30) == 0 {
		folder = oneOf(r, noNames()...)
	}
	switch r.Intn(12) {
	case 0:
		return addFolder(u, folder)
	case 1:
		return setGrants(u, folder, anyGrants(r)...)
	}
	return anyCall(r, m, u, folder)
}

// P16.1 to P16.6: any calls answer as the document says, also behind a commit, an
// end without one, and a crash.
func TestAnyCalls(t *testing.T) {
	seen := map[api.Errno]int{}
	for seed := range int64(12) {
		r := rand.New(rand.NewSource(seed))
		w := fresh(t)
		safe := w.m.copied()
		for range 1500 {
			a := w.do("any call", anyStep(r, w.m))
			seen[a.Err]++
			switch r.Intn(120) {
			case 0:
				w.commit()
				safe = w.m.copied()
			case 1:
				isErr(t, "Abort", w.tx.Abort(), api.OK)
				w.m = safe.copied()
				w.begin()
			case 2:
				w.disk.Crash(nil)
				w.m = safe.copied()
				w.open()
			case 3:
				w.unchanged("any calls", w.tx)
			}
		}
		w.unchanged("all calls", w.tx)
	}
	for _, err := range []api.Errno{api.OK, api.ErrGrant, api.ErrArg, api.ErrDenied, api.ErrNone, api.ErrThere, api.ErrMany, api.ErrVersion, api.ErrRule} {
		if seen[err] < 20 {
			t.Errorf("only %d calls have the error %d", seen[err], err)
		}
	}
}

// P16.7: of two worlds, in one of which others do anything in folders that bob
// may not read, bob is told the same in both.
func TestNobodySeesAnything(t *testing.T) {
	for seed := range int64(10) {
		r := rand.New(rand.NewSource(seed))
		busy, calm := fresh(t), fresh(t)
		for _, w := range []*world{busy, calm} {
			w.folder("b", toUser("bob", api.LevelEdit), toUser("ann", api.LevelEdit))
			w.folder("c", toRole("viewer", api.LevelView))
		}
		told := 0
		for range 600 {
			if folder := oneOf(r, "a", "ba", "bb", "d"); r.Intn(2) == 0 {
				c := oneOf(r, addFolder(root(), folder), setGrants(root(), folder, toUser("ann", 3), toTeam("bob", 1)), anyCall(r, busy.m, ann(), folder))
				busy.do("behind bob's back", c)
				continue
			}
			u, folder := oneOf(r, bob(), bob(), ann(), root()), oneOf(r, "a", "b", "b", "b", "c", "d")
			if u.Name != "bob" {
				folder = oneOf(r, "b", "c")
			}
			c := anyCall(r, calm.m, u, folder)
			if c.name == "All" || u.Name != "bob" && c.name == "Folders" {
				continue
			}
			told++
			if a, b := busy.do("busy", c), calm.do("calm", c); !same(a, b) {
				t.Fatalf("%s: %s, where others do nothing %s", brief(c), brief(a), brief(b))
			}
		}
		if told < 100 {
			t.Errorf("only %d calls", told)
		}
	}
}

// P16.8: whatever is called, the numbers of each rule's versions are 1, 2, and so
// on; and those that were read stay as they were read.
func TestOnceEach(t *testing.T) {
	type rule struct {
		folder string
		id     int64
	}
	for seed := range int64(5) {
		r := rand.New(rand.NewSource(seed))
		w := fresh(t)
		read := map[rule][]api.Version{}
		for i := range 1500 {
			w.do("any call", anyStep(r, w.m))
			if r.Intn(100) == 0 {
				w.commit()
			}
			if i%25 > 0 {
				continue
			}
			for folder, f := range w.m {
				for id := int64(1); id <= int64(len(f.rules)); id++ {
					of := rule{folder, id}
					l := history(root(), folder, id).do(w.tx).Versions
					for n, v := range l {
						if v.Number != int64(n)+1 || v.Id != id {
							t.Fatalf("%v: version %d is %s", of, n+1, brief(v))
						}
					}
					ahead := read[of]
					if len(l) < len(ahead) || !same(answer{Versions: l[:len(ahead)]}, answer{Versions: ahead}) {
						t.Fatalf("%v: %s, was %s", of, brief(l), brief(ahead))
					}
					read[of] = l
				}
			}
		}
		if len(read) < 20 {
			t.Errorf("only %d rules", len(read))
		}
	}
}
