package acl_test

import (
	"math/rand"
	"reflect"
	"slices"
	"testing"

	"klaxon/acl"
	"klaxon/api"
)

func oneOf[T any](r *rand.Rand, l ...T) T { return l[r.Intn(len(l))] }

// anyName is mostly one of few names, so that users and grants often meet.
func anyName(r *rand.Rand) string {
	if r.Intn(80) == 0 {
		return oneOf(r, noNames()...)
	}
	return oneOf(r, names()...)
}

func anyRole(r *rand.Rand) string {
	if r.Intn(40) == 0 {
		return oneOf(r, noRoles()...)
	}
	return oneOf(r, "viewer", "viewer", "editor", "editor", "admin")
}

// anyGrant may mostly be.
func anyGrant(r *rand.Rand) api.Grant {
	g := api.Grant{Kind: 1 + r.Intn(3), Name: anyName(r), Level: 1 + r.Intn(3)}
	if g.Kind == api.GrantRole {
		g.Name = anyRole(r)
	}
	switch r.Intn(80) {
	case 0:
		g.Kind = int(r.Uint64()) >> r.Intn(64)
	case 1:
		g.Level = int(r.Uint64()) >> r.Intn(64)
	case 2:
		g.Level = oneOf(r, -1, 0, 4)
	}
	return g
}

func anyGrants(r *rand.Rand, most int) []api.Grant {
	var l []api.Grant
	for range r.Intn(most + 1) {
		l = append(l, anyGrant(r))
	}
	return l
}

func anyUser(r *rand.Rand) api.User {
	u := api.User{Name: anyName(r), Role: anyRole(r)}
	for range r.Intn(api.MaxTeams + 2) {
		u.Teams = append(u.Teams, anyName(r))
	}
	return u
}

func anyFolder(r *rand.Rand) api.Folder {
	return api.Folder{Name: anyName(r), Grants: anyGrants(r, oneOf(r, 4, 4, 4, 18)), Next: int64(r.Uint64()>>r.Intn(64)) >> r.Intn(2)}
}

func mixed(r *rand.Rand, l []api.Grant) []api.Grant {
	l = slices.Clone(l)
	r.Shuffle(len(l), func(i, j int) { l[i], l[j] = l[j], l[i] })
	return l
}

// P15.1, P15.2
func TestAnyUserAndGrants(t *testing.T) {
	r := rand.New(rand.NewSource(1))
	errs, users, levels := map[api.Errno]int{}, map[api.Errno]int{}, map[int]int{}
	for range 20000 {
		u, l := anyUser(r), anyGrants(r, oneOf(r, 3, 6, 20))
		want := saidCheck(l)
		if err := acl.Check(l...); err != want {
			t.Fatalf("Check(%s): error %d, want %d", brief(l), err, want)
		}
		isUser(t, "any user", saidUser(u), u)
		level := saidLevel(u, l)
		hasLevel(t, "any user", level, u, l...)
		if t.Failed() {
			return
		}
		errs[want]++
		users[saidUser(u)]++
		levels[level]++
	}
	for _, err := range []api.Errno{api.OK, api.ErrMany, api.ErrGrant, api.ErrThere} {
		if errs[err] < 200 {
			t.Errorf("only %d lists have the error %d", errs[err], err)
		}
	}
	if users[api.OK] < 200 || users[api.ErrGrant] < 200 {
		t.Errorf("users: %v", users)
	}
	for level := api.LevelNone; level <= api.LevelAdmin; level++ {
		if levels[level] < 200 {
			t.Errorf("only %d have the level %d", levels[level], level)
		}
	}
}

// P15.4: with more grants, wherever they come in, nobody's Level is less; it is
// no more than they bring. What a user May, they may still.
func TestMoreGrants(t *testing.T) {
	r := rand.New(rand.NewSource(2))
	same, more := 0, 0
	for range 20000 {
		u, l, further := anyUser(r), anyGrants(r, 6), anyGrants(r, 3)
		at := r.Intn(len(l) + 1)
		both := slices.Concat(l[:at], further, l[at:])
		ahead, behind := acl.Level(u, l...), acl.Level(u, both...)
		if behind < ahead || behind != max(ahead, acl.Level(u, further...)) {
			t.Fatalf("%s has %d by %s, %d with %s too", brief(u), ahead, brief(l), behind, brief(further))
		}
		for level := -2; level < 7; level++ {
			if acl.May(u, level, l...) && !acl.May(u, level, both...) {
				t.Fatalf("%s may %d by %s, but not with %s too", brief(u), level, brief(l), brief(further))
			}
		}
		if behind > ahead {
			more++
		} else {
			same++
		}
	}
	if same < 1000 || more < 1000 {
		t.Errorf("the same %d times, more %d times", same, more)
	}
}

// P15.4: the order of grants has no part, in what they give nor in whether they
// may be.
func TestOrderOfGrants(t *testing.T) {
	r := rand.New(rand.NewSource(3))
	for range 10000 {
		u, l := anyUser(r), anyGrants(r, oneOf(r, 3, 6, 20))
		for range 4 {
			other := mixed(r, l)
			if acl.Level(u, other...) != acl.Level(u, l...) || acl.Check(other...) != acl.Check(l...) {
				t.Fatalf("%s: unlike by %s and by %s", brief(u), brief(l), brief(other))
			}
			level := r.Intn(6) - 1
			if acl.May(u, level, other...) != acl.May(u, level, l...) {
				t.Fatalf("%s: unlike at %d by %s and by %s", brief(u), level, brief(l), brief(other))
			}
		}
	}
}

// P15.4: whoever is admin has LevelAdmin, whatever the grants.
func TestAdminsWhateverTheGrants(t *testing.T) {
	r := rand.New(rand.NewSource(4))
	for range 3000 {
		u := anyUser(r)
		u.Role = "admin"
		hasLevel(t, "any admin", api.LevelAdmin, u, anyGrants(r, 20)...)
		if t.Failed() {
			return
		}
	}
}

// P15.3: Get of Put is the folder, whatever it is.
func TestThereAndBack(t *testing.T) {
	r := rand.New(rand.NewSource(5))
	seen := map[api.Errno]int{}
	for range 20000 {
		f := anyFolder(r)
		_, want := saidPut(f)
		seen[want]++
		if want == api.OK {
			accepts(t, "any folder", f)
		} else {
			refuses(t, "any folder", want, f)
		}
		if t.Failed() {
			return
		}
	}
	for _, err := range []api.Errno{api.OK, api.ErrGrant, api.ErrMany, api.ErrThere} {
		if seen[err] < 50 {
			t.Errorf("only %d folders have the error %d", seen[err], err)
		}
	}
}

// readsAsSaid asks that b is read as the document says; and if it is a folder,
// that it is the bytes of it. It tells whether it is one.
func readsAsSaid(t *testing.T, b string) bool {
	t.Helper()
	want, is := saidGet(b)
	got, err := acl.Get([]byte(b))
	if !is {
		if err != api.ErrGrant || !reflect.DeepEqual(got, api.Folder{}) {
			t.Fatalf("Get(%q): %s, error %d, want none", b, brief(got), err)
		}
		return false
	}
	if err != api.OK || !same(got, want) {
		t.Fatalf("Get(%q): %s, error %d, want %s", b, brief(got), err, brief(want))
	}
	if again, err := acl.Put(got); err != api.OK || string(again) != b {
		t.Fatalf("Put of what %q is: %q, error %d", b, again, err)
	}
	return true
}

// P15.3: the bytes of a folder in which one byte is another one, is gone, or is
// there once more, at each place.
func TestEachByteOfAFolder(t *testing.T) {
	for _, f := range []api.Folder{some(), full(), with(many(api.MaxGrants)...)} {
		b := saidFolder(f)
		found := 0
		for at := range len(b) {
			changed := []string{b[:at] + b[at+1:], b[:at] + b[at:at+1] + b[at:]}
			for c := range 256 {
				changed = append(changed, b[:at]+string([]byte{byte(c)})+b[at+1:])
			}
			for _, s := range changed {
				if readsAsSaid(t, s) {
					found++
				}
			}
		}
		if found < 100 {
			t.Errorf("only %d folders", found)
		}
	}
}

// P15.3: pieces in place of others, and any bytes at all.
func TestAnyBytes(t *testing.T) {
	r := rand.New(rand.NewSource(6))
	found := 0
	for range 20000 {
		if readsAsSaid(t, anyChange(r, pieces(anyFolder(r)))) {
			found++
		}
		readsAsSaid(t, someBytes(r, 40))
	}
	if found < 2000 {
		t.Errorf("only %d folders", found)
	}
}

func someBytes(r *rand.Rand, most int) string {
	p := make([]byte, r.Intn(most+1))
	for i := range p {
		p[i] = oneOf(r, 0, 1, 2, 3, '+', '-', 'a', 'b', 0x80, 0x81, byte(r.Intn(256)))
	}
	return string(p)
}

// anyChange is the bytes of these pieces, of which some are others.
func anyChange(r *rand.Rand, all []piece) string {
	for range r.Intn(3) {
		at, from := r.Intn(len(all)), r.Intn(len(all))
		switch r.Intn(6) {
		case 0:
			all[at].bytes = all[from].bytes
		case 1:
			all[at], all[from] = all[from], all[at]
		case 2:
			all[at].bytes = saidText(oneOf(r, "a", "viewer", "", "ann-9", "A"))
		case 3:
			all[at].bytes = saidSigned(int64(r.Intn(7) - 2))
		case 4:
			all[at].bytes = saidNumber(uint64(r.Intn(20)))
		default:
			all[at].bytes += someBytes(r, 2)
		}
	}
	return joined(all)
}
