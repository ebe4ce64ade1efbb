package rules_test

import (
	"slices"
	"strconv"
	"strings"
	"testing"

	"klaxon/acl"
	"klaxon/api"
)

func hasNames(t *testing.T, what string, a answer, want ...string) {
	t.Helper()
	if a.Err != api.OK || !slices.Equal(a.Names, want) {
		t.Errorf("%s: %q, error %d, want %q", what, a.Names, a.Err, want)
	}
}

func hasFolder(t *testing.T, what string, a answer, name string, next int64, l ...api.Grant) {
	t.Helper()
	f := a.Folder
	if a.Err != api.OK || f.Name != name || f.Next != next || !slices.Equal(f.Grants, l) {
		t.Errorf("%s: %s, want %s, Next %d, %v", what, brief(a), name, next, l)
	}
}

// P16.2: a new folder has no Grants, and Next 1.
func TestAddFolder(t *testing.T) {
	w := fresh(t)
	for _, name := range []string{"ops", "0", "-", strings.Repeat("z", api.MaxFolder)} {
		w.wants("AddFolder", addFolder(root(), name), api.OK)
		hasFolder(t, "a new folder", w.do("Folder", folderOf(root(), name)), name, 1)
		for _, u := range []api.User{ann(), bob(), user("root", "viewer")} {
			w.wants("a new folder", folderOf(u, name), api.ErrDenied)
			w.wants("a new folder", create(u, 1, some(name, "t")), api.ErrDenied)
		}
		if l := w.do("List", list(root(), name)); len(l.Versions) != 0 || l.Err != api.OK {
			t.Errorf("List of a new folder: %s", brief(l))
		}
	}
	hasNames(t, "Folders", w.do("Folders", foldersOf(root())), "-", "0", "ops", strings.Repeat("z", api.MaxFolder))
}

// P16.2: by who is no admin, whatever rights to folders there are.
func TestAddFolderByOthers(t *testing.T) {
	w := fresh(t)
	w.folder("ops", toUser("ann", api.LevelAdmin), toRole("viewer", api.LevelAdmin), toTeam("admin", api.LevelAdmin))
	for _, u := range []api.User{ann(), bob(), user("root", "editor"), user("admin", "viewer", "admin")} {
		for _, name := range []string{"new", "ops", "No", ""} {
			w.wants("no admin", addFolder(u, name), api.ErrDenied)
		}
	}
}

// P16.2
func TestAddFolderOfNoName(t *testing.T) {
	w := ops(t, 1)
	for _, name := range noNames() {
		w.wants("no name", addFolder(root(), name), api.ErrGrant)
	}
}

// P16.2: a folder that is there stays as it is.
func TestAddFolderThatIsThere(t *testing.T) {
	w := ops(t, 2)
	for range 2 {
		w.wants("there", addFolder(root(), "ops"), api.ErrThere)
		hasFolder(t, "there", w.do("Folder", folderOf(root(), "ops")), "ops", 3, toUser("ann", api.LevelEdit))
		w.commit()
	}
}

// P16.2: MaxFolders and one more; ErrThere and ErrGrant come ahead of that.
func TestAsManyFoldersAsThereMayBe(t *testing.T) {
	w := fresh(t)
	var names []string
	for i := range api.MaxFolders {
		names = append(names, "f"+strconv.Itoa(i))
		w.wants("a folder", addFolder(root(), names[i]), api.OK)
		if i == 7 {
			w.commit()
		}
	}
	w.wants("one more", addFolder(root(), "g"), api.ErrMany)
	w.wants("one more", addFolder(root(), "a"), api.ErrMany)
	w.wants("there", addFolder(root(), "f0"), api.ErrThere)
	w.wants("there", addFolder(root(), "f15"), api.ErrThere)
	w.wants("no name", addFolder(root(), "G"), api.ErrGrant)
	w.wants("by ann", addFolder(ann(), "g"), api.ErrDenied)
	slices.Sort(names)
	hasNames(t, "Folders", w.do("Folders", foldersOf(root())), names...)
	w.wants("in the last one", create(root(), 1, some("f15", "t")), api.OK)
}

// P16.2: the new grants stand in place of the elder ones; all else of the folder
// stays, and so do other folders.
func TestSetGrants(t *testing.T) {
	w := ops(t, 3)
	w.folder("other", toUser("bob", api.LevelEdit))
	for _, l := range [][]api.Grant{
		{toTeam("red", api.LevelView), toUser("bob", api.LevelAdmin), toRole("viewer", api.LevelEdit)},
		{toRole("viewer", api.LevelEdit)},
		{toUser("bob", api.LevelView)},
		nil,
		{},
		{toUser("x", 1), toTeam("x", 2), toUser("editor", 3), toRole("editor", 1), toUser("a", 3)},
	} {
		w.wants("SetGrants", setGrants(root(), "ops", l...), api.OK)
		hasFolder(t, "SetGrants", w.do("Folder", folderOf(root(), "ops")), "ops", 4, l...)
		for _, u := range []api.User{ann(), bob(), user("eve", "viewer", "red")} {
			want := api.OK
			if acl.Level(u, l...) == api.LevelNone {
				want = api.ErrDenied
			}
			w.wants("whoever may", list(u, "ops"), want)
		}
		w.unchanged("SetGrants", w.tx)
	}
	hasFolder(t, "the other one", w.do("Folder", folderOf(root(), "other")), "other", 1, toUser("bob", api.LevelEdit))
}

// P16.2: who has LevelAdmin by grants alone may set them, also so that nobody
// may but an admin.
func TestSetGrantsByGrants(t *testing.T) {
	w := fresh(t)
	w.folder("ops", toUser("ann", api.LevelAdmin), toRole("viewer", api.LevelEdit))
	w.wants("an editor", setGrants(bob(), "ops"), api.ErrDenied)
	w.wants("ann", setGrants(ann(), "ops", toUser("ann", api.LevelEdit)), api.OK)
	w.wants("ann again", setGrants(ann(), "ops", toUser("ann", api.LevelAdmin)), api.ErrDenied)
	w.wants("root", setGrants(root(), "ops"), api.OK)
	w.wants("ann", folderOf(ann(), "ops"), api.ErrDenied)
	hasFolder(t, "nobody's", w.do("Folder", folderOf(root(), "ops")), "ops", 1)
}

// P16.2: grants that acl.Check refuses; those that there were stay.
func TestSetGrantsThatMayNotBe(t *testing.T) {
	w := ops(t, 1)
	var most []api.Grant
	for i := range api.MaxGrants {
		most = append(most, toTeam("t"+strconv.Itoa(i), api.LevelView))
	}
	for _, x := range []struct {
		err api.Errno
		l   []api.Grant
	}{
		{api.ErrGrant, []api.Grant{{}}},
		{api.ErrGrant, []api.Grant{toUser("a", api.LevelNone)}},
		{api.ErrGrant, []api.Grant{toUser("a", api.LevelAdmin+1)}},
		{api.ErrGrant, []api.Grant{toUser("A", api.LevelView)}},
		{api.ErrGrant, []api.Grant{toRole("ops", api.LevelView)}},
		{api.ErrGrant, []api.Grant{{Kind: 4, Name: "a", Level: 1}}},
		{api.ErrGrant, []api.Grant{toUser("a", 1), toUser("a", 1), toUser("", 1)}},
		{api.ErrThere, []api.Grant{toUser("a", 1), toTeam("a", 1), toUser("a", 2)}},
		{api.ErrMany, append(slices.Clone(most), toUser("a", 1))},
		{api.ErrMany, make([]api.Grant, api.MaxGrants+1)},
	} {
		w.wants("SetGrants", setGrants(root(), "ops", x.l...), x.err)
		hasFolder(t, "behind it", w.do("Folder", folderOf(root(), "ops")), "ops", 2, toUser("ann", api.LevelEdit))
	}
	w.wants("as many as may be", setGrants(root(), "ops", most...), api.OK)
	hasFolder(t, "as many as may be", w.do("Folder", folderOf(root(), "ops")), "ops", 2, most...)
}

// P16.3: Next counts the rules that there ever were.
func TestFolder(t *testing.T) {
	w := ops(t, 2)
	hasFolder(t, "Folder", w.do("Folder", folderOf(ann(), "ops")), "ops", 3, toUser("ann", api.LevelEdit))
	w.wants("Delete", remove(ann(), 1, "ops", 2, 1), api.OK)
	w.wants("Update", update(ann(), 1, 1, 1, some("ops", "u")), api.OK)
	hasFolder(t, "Folder", w.do("Folder", folderOf(ann(), "ops")), "ops", 3, toUser("ann", api.LevelEdit))
	w.commit()
	hasFolder(t, "Folder", w.do("Folder", folderOf(root(), "ops")), "ops", 3, toUser("ann", api.LevelEdit))
}

// P16.3: the names that a user may read, some, none, or all; rising byte by
// byte, also where one name begins another one.
func TestFolders(t *testing.T) {
	w := fresh(t)
	for _, u := range []api.User{root(), ann(), bob()} {
		hasNames(t, "of no folder", w.do("Folders", foldersOf(u)))
	}
	w.folder("b", toUser("bob", api.LevelView))
	w.folder("ab", toRole("viewer", api.LevelEdit))
	w.folder("a", toUser("bob", api.LevelAdmin), toTeam("blue", api.LevelView))
	w.folder("a-b", toUser("ann", api.LevelView))
	w.folder("abcdefgh", toTeam("blue", api.LevelEdit), toUser("bob", api.LevelView))
	w.folder("abcdefgh-", toUser("bob", api.LevelView))
	w.folder("aa")
	w.folder("a0", toUser("eve", api.LevelAdmin))
	hasNames(t, "root", w.do("Folders", foldersOf(root())), "a", "a-b", "a0", "aa", "ab", "abcdefgh", "abcdefgh-", "b")
	hasNames(t, "ann", w.do("Folders", foldersOf(ann())), "a", "a-b", "abcdefgh")
	hasNames(t, "bob", w.do("Folders", foldersOf(bob())), "a", "ab", "abcdefgh", "abcdefgh-", "b")
	hasNames(t, "nobody", w.do("Folders", foldersOf(user("kim", "editor"))))
	w.commit()
	w.wants("SetGrants", setGrants(root(), "b"), api.OK)
	hasNames(t, "bob", w.do("Folders", foldersOf(bob())), "a", "ab", "abcdefgh", "abcdefgh-")
	w.wants("SetGrants", setGrants(root(), "a0", toRole("viewer", 1), toRole("editor", 1)), api.OK)
	hasNames(t, "bob", w.do("Folders", foldersOf(bob())), "a", "a0", "ab", "abcdefgh", "abcdefgh-")
	hasNames(t, "nobody", w.do("Folders", foldersOf(user("kim", "editor"))), "a0")
}
