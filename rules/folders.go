package rules

import (
	"klaxon/acl"
	"klaxon/api"
	"klaxon/kv"
	"klaxon/rule"
)

// AddFolder makes a folder that nobody but admins has a right to (P16.2).
func AddFolder(t *kv.Tx, u api.User, name string) api.Errno {
	if err := toWrite(t, u); err != api.OK {
		return err
	}
	switch {
	case u.Role != admin:
		return api.ErrDenied
	case !rule.Name(name):
		return api.ErrGrant
	}
	_, there, err := getFolder(t, name)
	switch {
	case err != api.OK:
		return err
	case there:
		return api.ErrThere
	}
	if err := roomFor(t, folders, api.MaxFolders); err != api.OK {
		return err
	}
	return putFolder(t, api.Folder{Name: name, Next: 1})
}

// SetGrants lets l be the grants of a folder, in place of those that it had
// (P16.2).
func SetGrants(t *kv.Tx, u api.User, folder string, l ...api.Grant) api.Errno {
	if err := toWrite(t, u); err != api.OK {
		return err
	}
	f, err := right(t, u, api.LevelAdmin, folder)
	if err != api.OK {
		return err
	}
	if err := acl.Check(l...); err != api.OK {
		return err
	}
	f.Grants = l
	return putFolder(t, f)
}

// Folder is a folder (P16.3).
func Folder(t *kv.Tx, u api.User, name string) (api.Folder, api.Errno) {
	return toView(t, u, name)
}

// Folders is the names of all folders that u may read, rising (P16.3).
func Folders(t *kv.Tx, u api.User) ([]string, api.Errno) {
	if err := toRead(t, u); err != api.OK {
		return nil, err
	}
	pairs, err := within(t, folders, api.MaxFolders)
	if err != api.OK {
		return nil, err
	}
	var l []string
	for _, p := range pairs {
		f, err := acl.Get([]byte(p.Value))
		if err != api.OK {
			return nil, err
		}
		if acl.May(u, api.LevelView, f.Grants...) {
			l = append(l, f.Name)
		}
	}
	return l, api.OK
}
