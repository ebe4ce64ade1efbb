package acl_test

import (
	"bytes"
	"reflect"
	"slices"
	"testing"

	"klaxon/acl"
	"klaxon/api"
)

// roomy is the list with spare room behind it, in which x stands.
func roomy[T any](x T, l ...T) []T {
	return append(slices.Clone(l), x, x)[:len(l)]
}

// whole is the list with its spare room.
func whole[T any](l []T) []T { return l[:cap(l)] }

func scribble(b []byte) {
	for i := range whole(b) {
		whole(b)[i] ^= 0xa5
	}
}

func scribbleGrants(l []api.Grant) {
	for i := range whole(l) {
		whole(l)[i] = toUser("scribble", 77)
	}
}

// handed is folders that may be, and folders with an error of each kind.
func handed() []api.Folder {
	wrong := full()
	wrong.Next = 0
	return []api.Folder{
		some(), full(), with(many(api.MaxGrants)...), wrong, {}, with(many(api.MaxGrants + 1)...),
		with(toUser("z", 3), toUser("a", 1), toTeam("b", 9)), with(toUser("z", 3), toTeam("a", 1), toUser("z", 1)),
	}
}

// P15.1 to P15.3: grants, teams and folders that are handed in are not changed,
// those that are refused neither.
func TestNothingIsChanged(t *testing.T) {
	for _, f := range handed() {
		f.Grants = roomy(toUser("spare", 3), f.Grants...)
		u := api.User{Name: "a", Role: "viewer", Teams: roomy("spare", "z", "b", "A b", "a")}
		grants, teams := slices.Clone(whole(f.Grants)), slices.Clone(whole(u.Teams))
		for what, do := range map[string]func(){
			"Check": func() { acl.Check(f.Grants...) },
			"User":  func() { acl.User(u) },
			"Level": func() { acl.Level(u, f.Grants...) },
			"May":   func() { acl.May(u, api.LevelEdit, f.Grants...) },
			"Put":   func() { acl.Put(f) },
		} {
			do()
			if !slices.Equal(whole(f.Grants), grants) || !slices.Equal(whole(u.Teams), teams) {
				t.Fatalf("%s changed what was handed in: %s, %s", what, brief(whole(f.Grants)), brief(whole(u.Teams)))
			}
		}
	}
}

// P15.3: bytes that are answered are new each time.
func TestPutSharesNothing(t *testing.T) {
	for _, f := range handed() {
		first, err := acl.Put(f)
		again, _ := acl.Put(f)
		if !bytes.Equal(first, again) {
			t.Fatalf("unlike the second time: %q, %q", first, again)
		}
		scribble(first)
		if err == api.OK && string(again) != saidFolder(f) {
			t.Fatalf("two answers share something: %q", again)
		}
	}
}

// P15.3: bytes that are handed in are not changed and not kept, and folders that
// are answered are new.
func TestGetChangesAndSharesNothing(t *testing.T) {
	want := with(many(api.MaxGrants - 3)...)
	for _, cut := range []int{0, 1, 20} {
		s := saidFolder(want)
		b := roomy(0xee, []byte(s[:len(s)-cut])...)
		ahead := slices.Clone(whole(b))
		first, err := acl.Get(b)
		again, _ := acl.Get(b)
		if !bytes.Equal(whole(b), ahead) {
			t.Fatalf("changed what was handed in: %q", whole(b))
		}
		if !reflect.DeepEqual(first, again) {
			t.Fatalf("unlike the second time: %s, %s", brief(first), brief(again))
		}
		scribble(b)
		scribbleGrants(first.Grants)
		if cut == 0 && (err != api.OK || !same(again, want)) {
			t.Fatalf("something is shared: %s", brief(again))
		}
	}
}

// P15.1, P15.3: nil and an empty list are the same.
func TestNilAndEmpty(t *testing.T) {
	for _, l := range [][]api.Grant{nil, {}, make([]api.Grant, 0, 4)} {
		accepts(t, "no grants", with(l...))
		hasLevel(t, "no grants", api.LevelNone, ann(), l...)
	}
	for _, l := range [][]string{nil, {}, make([]string, 0, 4)} {
		isUser(t, "no teams", api.OK, changeUser(func(u *api.User) { u.Teams = l }))
	}
	for _, b := range [][]byte{nil, {}, make([]byte, 0, 4)} {
		if f, err := acl.Get(b); err != api.ErrGrant || !reflect.DeepEqual(f, api.Folder{}) {
			t.Errorf("Get of no bytes: %+v, error %d", f, err)
		}
	}
}
