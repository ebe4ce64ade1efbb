package rules

import (
	"klaxon/acl"
	"klaxon/api"
	"klaxon/keys"
	"klaxon/kv"
	"klaxon/rule"
)

// The buckets. Each version lies once, at a key that is never put again. The
// longest key is that of a version: kv takes it, for a folder's name and two
// numbers have 46 bytes at most.
const (
	folders  = "rfolder"  // by name
	versions = "rversion" // by folder, Id, Number
	lasts    = "rlast"    // by folder, Id, of rules that are not deleted: the key of the last version
)

// getFolder is the folder of that name, and whether there is one. A name that
// no folder can have is not looked for: it may be too long for a key.
func getFolder(t *kv.Tx, name string) (api.Folder, bool, api.Errno) {
	if !rule.Name(name) {
		return api.Folder{}, false, api.OK
	}
	b, there, err := get(t, folders, keys.Text(name))
	if err != api.OK || !there {
		return api.Folder{}, false, err
	}
	f, err := acl.Get([]byte(b))
	return f, err == api.OK, err
}

func putFolder(t *kv.Tx, f api.Folder) api.Errno {
	key, err := keys.Put(keys.Text(f.Name))
	if err != api.OK {
		return err
	}
	b, err := acl.Put(f)
	if err != api.OK {
		return err
	}
	return t.Put(folders, key, string(b))
}

// lastOf is the last version of a rule that is not deleted.
func lastOf(t *kv.Tx, folder string, id int64) (api.Version, api.Errno) {
	key, there, err := get(t, lasts, keys.Text(folder), keys.Int(id))
	switch {
	case err != api.OK:
		return api.Version{}, err
	case !there:
		return api.Version{}, api.ErrNone
	}
	return versionAt(t, key)
}

// lastsOf is the last versions of all rules that are not deleted, whose keys
// begin with l: most of them at most.
func lastsOf(t *kv.Tx, most int, l ...api.Part) ([]api.Version, api.Errno) {
	pairs, err := within(t, lasts, most, l...)
	if err != api.OK {
		return nil, err
	}
	var all []api.Version
	for _, p := range pairs {
		v, err := versionAt(t, p.Value)
		if err != api.OK {
			return nil, err
		}
		all = append(all, v)
	}
	return all, api.OK
}

func versionAt(t *kv.Tx, key string) (api.Version, api.Errno) {
	b, _, err := t.Get(versions, key)
	if err != api.OK {
		return api.Version{}, err
	}
	return rule.GetVersion([]byte(b))
}

// putVersion makes v the last version of its rule. All that may have an error
// stands ahead of the first change.
func putVersion(t *kv.Tx, v api.Version) api.Errno {
	b, err := rule.PutVersion(v)
	if err != api.OK {
		return err
	}
	last, err := keys.Put(keys.Text(v.Rule.Folder), keys.Int(v.Id))
	if err != api.OK {
		return err
	}
	key, err := keys.Put(keys.Text(v.Rule.Folder), keys.Int(v.Id), keys.Int(v.Number))
	if err != api.OK {
		return err
	}
	if err := t.Put(versions, key, string(b)); err != api.OK {
		return err
	}
	if v.Deleted {
		return t.Delete(lasts, last)
	}
	return t.Put(lasts, last, key)
}

// get is what a bucket has at the key of l, and whether it has something there.
func get(t *kv.Tx, bucket string, l ...api.Part) (string, bool, api.Errno) {
	key, err := keys.Put(l...)
	if err != api.OK {
		return "", false, err
	}
	return t.Get(bucket, key)
}

// within is the pairs of a bucket whose keys begin with l: most of them at most.
func within(t *kv.Tx, bucket string, most int, l ...api.Part) ([]api.Pair, api.Errno) {
	from, to, err := keys.Range(l...)
	if err != api.OK {
		return nil, err
	}
	return t.Scan(bucket, from, to, most)
}

// roomFor is ErrMany if a bucket has most keys that begin with l already.
func roomFor(t *kv.Tx, bucket string, most int, l ...api.Part) api.Errno {
	pairs, err := within(t, bucket, most, l...)
	switch {
	case err != api.OK:
		return err
	case len(pairs) >= most:
		return api.ErrMany
	}
	return api.OK
}
