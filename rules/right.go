package rules

import (
	"klaxon/acl"
	"klaxon/api"
	"klaxon/kv"
)

const (
	maxTime = 1 << 40
	admin   = "admin"
)

// toRead is the first errors of all calls with a user (P16.1). No folder has an
// empty key: it is asked for what kv says of the transaction.
func toRead(t *kv.Tx, u api.User) api.Errno {
	if _, _, err := t.Get(folders, ""); err != api.OK {
		return err
	}
	return acl.User(u)
}

// toWrite is the first errors of the calls that change something. A bucket
// without a name is refused behind all that may be wrong with the transaction
// itself: nothing is deleted by it.
func toWrite(t *kv.Tx, u api.User) api.Errno {
	if err := t.Delete("", ""); err != api.ErrKey {
		return err
	}
	return toRead(t, u)
}

// toView is a folder that u may read.
func toView(t *kv.Tx, u api.User, folder string) (api.Folder, api.Errno) {
	if err := toRead(t, u); err != api.OK {
		return api.Folder{}, err
	}
	return right(t, u, api.LevelView, folder)
}

// toEdit is a folder whose rules u may change at that time.
func toEdit(t *kv.Tx, u api.User, at int64, folder string) (api.Folder, api.Errno) {
	if err := toWrite(t, u); err != api.OK {
		return api.Folder{}, err
	}
	if at < 0 || at > maxTime {
		return api.Folder{}, api.ErrArg
	}
	return right(t, u, api.LevelEdit, folder)
}

// right is a folder to which u has the right of that level. Who is no admin is
// told the same of a folder that is not there as of one that must not be seen
// (P16.7).
func right(t *kv.Tx, u api.User, level int, folder string) (api.Folder, api.Errno) {
	f, there, err := getFolder(t, folder)
	switch {
	case err != api.OK:
		return api.Folder{}, err
	case there && acl.May(u, level, f.Grants...):
		return f, api.OK
	case !there && u.Role == admin:
		return api.Folder{}, api.ErrNone
	}
	return api.Folder{}, api.ErrDenied
}
