package acl_test

import (
	"fmt"
	"reflect"
	"slices"
	"strconv"
	"strings"
	"testing"

	"klaxon/acl"
	"klaxon/api"
)

func toUser(name string, level int) api.Grant {
	return api.Grant{Kind: api.GrantUser, Name: name, Level: level}
}

func toTeam(name string, level int) api.Grant {
	return api.Grant{Kind: api.GrantTeam, Name: name, Level: level}
}

func toRole(name string, level int) api.Grant {
	return api.Grant{Kind: api.GrantRole, Name: name, Level: level}
}

// many is so many grants, each of which may be, and which may be together.
func many(n int) []api.Grant {
	var l []api.Grant
	for i := range n {
		l = append(l, api.Grant{Kind: api.GrantUser + i%2, Name: "n-" + strconv.Itoa(i), Level: api.LevelView + i%3})
	}
	return l
}

// some is a folder with as little in it as there may be.
func some() api.Folder { return api.Folder{Name: "a", Next: 1} }

// full is a folder with a grant of each kind, and of each level.
func full() api.Folder {
	return api.Folder{Name: "ops-1", Next: 300, Grants: []api.Grant{
		toTeam("red", api.LevelEdit), toUser("ann", api.LevelView), toRole("editor", api.LevelAdmin), toUser("red", api.LevelAdmin),
	}}
}

// with is some folder with these grants.
func with(l ...api.Grant) api.Folder {
	f := some()
	f.Grants = l
	return f
}

// ann is a viewer in two teams.
func ann() api.User {
	return api.User{Name: "ann", Role: "viewer", Teams: []string{"red", "blue"}}
}

// texts is so many names.
func texts(n int) []string {
	var l []string
	for i := range n {
		l = append(l, "t"+strconv.Itoa(i))
	}
	return l
}

// names is texts that are a rule.Name.
func names() []string {
	return []string{"a", "z", "0", "9", "-", "ann", "ann-9", "viewer", "editor", "admin", "boss", strings.Repeat("z", api.MaxFolder)}
}

// noNames is texts that are none.
func noNames() []string {
	return []string{
		"", " ", "A", "Ann", "anN", "_", "a_b", "a b", " a", "a ", "a.b", "a/b", "ä", "a\x00", "\x00", "a\xff", "\xff", "a\n", "{", "`", ":", "/", "@", "[",
		strings.Repeat("a", api.MaxFolder+1), strings.Repeat("-", api.MaxFolder) + "-", strings.Repeat("a", 100000),
	}
}

// noRoles is texts that are no role.
func noRoles() []string {
	more := []string{"boss", "ann", "view", "edit", "viewe", "viewers", "editors", "admins", "adm", "none", "-", "0", "Viewer", "EDITOR", "Admin", "admin ", " admin", "admin\x00"}
	return append(more, noNames()...)
}

// accepts asks that f may be, that its bytes are those of the document, and that
// they are read as f.
func accepts(t *testing.T, what string, f api.Folder) {
	t.Helper()
	if err := acl.Check(f.Grants...); err != api.OK {
		t.Errorf("%s: Check: error %d", what, err)
	}
	want := saidFolder(f)
	if b, err := acl.Put(f); err != api.OK || string(b) != want {
		t.Errorf("%s: Put: %.200q, error %d, want %.200q", what, b, err, want)
	}
	if got, err := acl.Get([]byte(want)); err != api.OK || !same(got, f) {
		t.Errorf("%s: Get: %s, error %d, want %s", what, brief(got), err, brief(f))
	}
}

// refuses asks that f may not be, for this reason, and that its bytes are none
// of a folder.
func refuses(t *testing.T, what string, want api.Errno, f api.Folder) {
	t.Helper()
	if b, err := acl.Put(f); b != nil || err != want {
		t.Errorf("%s: Put: %.200q, error %d, want %d", what, b, err, want)
	}
	isNoFolder(t, what, saidFolder(f))
}

// refusesGrants asks that l may not be, for this reason, by itself and in a
// folder.
func refusesGrants(t *testing.T, what string, want api.Errno, l ...api.Grant) {
	t.Helper()
	if err := acl.Check(l...); err != want {
		t.Errorf("%s: Check: error %d, want %d", what, err, want)
	}
	refuses(t, what, want, with(l...))
}

// isNoFolder asks that s is refused.
func isNoFolder(t *testing.T, what, s string) {
	t.Helper()
	if f, err := acl.Get([]byte(s)); err != api.ErrGrant || !reflect.DeepEqual(f, api.Folder{}) {
		t.Errorf("%s: Get(%.200q): %s, error %d", what, s, brief(f), err)
	}
}

// same takes nil and an empty list for the same.
func same(a, b api.Folder) bool {
	return a.Name == b.Name && a.Next == b.Next && slices.Equal(a.Grants, b.Grants)
}

// brief keeps long lists out of what a test tells.
func brief(x any) string {
	s := fmt.Sprintf("%+v", x)
	if len(s) > 800 {
		return s[:800] + ".."
	}
	return s
}
