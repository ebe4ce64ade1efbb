package acl_test

import (
	"slices"
	"strconv"
	"testing"

	"klaxon/acl"
	"klaxon/api"
)

// changeUser is ann but for one thing.
func changeUser(do func(u *api.User)) api.User {
	u := ann()
	do(&u)
	return u
}

func isUser(t *testing.T, what string, want api.Errno, u api.User) {
	t.Helper()
	if err := acl.User(u); err != want {
		t.Errorf("%s: User(%s): error %d, want %d", what, brief(u), err, want)
	}
}

// P15.1
func TestUsersByName(t *testing.T) {
	for _, s := range names() {
		isUser(t, "Name", api.OK, changeUser(func(u *api.User) { u.Name = s }))
	}
	for _, s := range noNames() {
		isUser(t, "Name", api.ErrGrant, changeUser(func(u *api.User) { u.Name = s }))
	}
	isUser(t, "the zero User", api.ErrGrant, api.User{})
}

// P15.1
func TestUsersByRole(t *testing.T) {
	for _, s := range []string{"viewer", "editor", "admin"} {
		isUser(t, "Role", api.OK, changeUser(func(u *api.User) { u.Role = s }))
		isUser(t, "Role", api.OK, api.User{Name: "x", Role: s})
	}
	for _, s := range noRoles() {
		isUser(t, "Role", api.ErrGrant, changeUser(func(u *api.User) { u.Role = s }))
	}
}

// P15.1: from none to MaxTeams.
func TestUsersByNumberOfTeams(t *testing.T) {
	for n := range 40 {
		want := api.OK
		if n > api.MaxTeams {
			want = api.ErrGrant
		}
		isUser(t, strconv.Itoa(n)+" Teams", want, changeUser(func(u *api.User) { u.Teams = texts(n) }))
	}
	isUser(t, "1000 Teams", api.ErrGrant, changeUser(func(u *api.User) { u.Teams = texts(1000) }))
	isUser(t, "empty Teams", api.OK, changeUser(func(u *api.User) { u.Teams = []string{} }))
}

// P15.1: each of the Teams is a rule.Name; nothing says that they are unlike.
func TestUsersByTeam(t *testing.T) {
	for _, s := range names() {
		isUser(t, "a Team", api.OK, changeUser(func(u *api.User) { u.Teams = []string{s} }))
		isUser(t, "one Team in all", api.OK, changeUser(func(u *api.User) { u.Teams = slices.Repeat([]string{s}, api.MaxTeams) }))
		isUser(t, "a Team of one's own name", api.OK, changeUser(func(u *api.User) { u.Name, u.Teams = s, []string{s} }))
	}
	for _, s := range noNames() {
		for at := range api.MaxTeams {
			u := changeUser(func(u *api.User) { u.Teams = texts(api.MaxTeams) })
			u.Teams[at] = s
			isUser(t, "Team "+strconv.Itoa(at), api.ErrGrant, u)
		}
	}
}
