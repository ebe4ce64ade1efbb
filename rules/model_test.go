package rules_test

import (
	"maps"
	"slices"

	"klaxon/acl"
	"klaxon/api"
	"klaxon/rule"
)

// What the document says, read a second time: without kv and keys. It takes the
// word of acl and rule for who may do what, and which rules may be.

// model is the folders by name.
type model map[string]shelf

// shelf is a folder's grants, and all versions of its rules: those of the rule
// with the Id 1 ahead.
type shelf struct {
	grants []api.Grant
	rules  [][]api.Version
}

// copied is the model as it is now; lists in it are never changed.
func (m model) copied() model { return maps.Clone(m) }

func (m model) do(c call) answer {
	if err := m.first(c); err != api.OK {
		return answer{Err: err}
	}
	f := m[c.folder]
	switch c.name {
	case "AddFolder":
		return answer{Err: m.add(c.folder)}
	case "SetGrants":
		return answer{Err: m.grant(c)}
	case "Folder":
		return answer{Folder: api.Folder{Name: c.folder, Grants: f.grants, Next: int64(len(f.rules)) + 1}}
	case "Folders":
		return answer{Names: m.names(c.user)}
	case "Create":
		return m.create(c)
	case "Update", "Delete":
		return answer{Err: m.change(c)}
	case "Get":
		v, ok := f.last(c.id)
		if !ok {
			return answer{Err: api.ErrNone}
		}
		return answer{Versions: []api.Version{v}}
	case "History":
		if c.id < 1 || c.id > int64(len(f.rules)) {
			return answer{Err: api.ErrNone}
		}
		return answer{Versions: f.rules[c.id-1]}
	case "List":
		return answer{Versions: f.lasts()}
	}
	var l []api.Version
	for _, name := range slices.Sorted(maps.Keys(m)) {
		l = append(l, m[name].lasts()...)
	}
	return answer{Versions: l}
}

// first is P16.1, of a transaction with nothing wrong in it.
func (m model) first(c call) api.Errno {
	if c.name == "All" {
		return api.OK
	}
	if err := acl.User(c.user); err != api.OK {
		return err
	}
	if changes := c.name == "Create" || c.name == "Update" || c.name == "Delete"; changes && (c.at < 0 || c.at > maxTime) {
		return api.ErrArg
	}
	asked := map[string]int{"SetGrants": 3, "Folder": 1, "Create": 2, "Update": 2, "Delete": 2, "Get": 1, "History": 1, "List": 1}[c.name]
	f, there := m[c.folder]
	switch {
	case asked == 0:
	case !there && c.user.Role == "admin":
		return api.ErrNone
	case !there || acl.Level(c.user, f.grants...) < asked:
		return api.ErrDenied
	}
	if c.name == "AddFolder" && c.user.Role != "admin" {
		return api.ErrDenied
	}
	return api.OK
}

func (m model) add(name string) api.Errno {
	_, there := m[name]
	switch {
	case !rule.Name(name):
		return api.ErrGrant
	case there:
		return api.ErrThere
	case len(m) >= 16:
		return api.ErrMany
	}
	m[name] = shelf{}
	return api.OK
}

func (m model) grant(c call) api.Errno {
	if err := acl.Check(c.grants...); err != api.OK {
		return err
	}
	f := m[c.folder]
	f.grants = slices.Clone(c.grants)
	m[c.folder] = f
	return api.OK
}

func (m model) names(u api.User) []string {
	var l []string
	for _, name := range slices.Sorted(maps.Keys(m)) {
		if acl.Level(u, m[name].grants...) >= 1 {
			l = append(l, name)
		}
	}
	return l
}

func (m model) create(c call) answer {
	f := m[c.folder]
	if err := rule.Check(c.rule); err != api.OK {
		return answer{Err: err}
	}
	if len(f.lasts()) >= 20 {
		return answer{Err: api.ErrMany}
	}
	id := int64(len(f.rules)) + 1
	m.put(c, id, api.Version{Id: id, Number: 1, By: c.user.Name, At: c.at, Rule: c.rule})
	return answer{Id: id}
}

func (m model) change(c call) api.Errno {
	v, ok := m[c.folder].last(c.id)
	switch {
	case !ok:
		return api.ErrNone
	case v.Number != c.number:
		return api.ErrVersion
	}
	next := api.Version{Id: c.id, Number: c.number + 1, By: c.user.Name, At: c.at, Rule: c.rule}
	if c.name == "Delete" {
		next.Deleted, next.Rule = true, v.Rule
	}
	if err := rule.Check(next.Rule); err != api.OK {
		return err
	}
	if len(m[c.folder].rules[c.id-1]) >= 100 {
		return api.ErrMany
	}
	m.put(c, c.id, next)
	return api.OK
}

// put puts v behind the versions of its rule.
func (m model) put(c call, id int64, v api.Version) {
	v.Rule.Labels, v.Rule.Nodes = slices.Clone(v.Rule.Labels), slices.Clone(v.Rule.Nodes)
	f := m[c.folder]
	f.rules = slices.Clone(f.rules)
	if id > int64(len(f.rules)) {
		f.rules = append(f.rules, nil)
	}
	f.rules[id-1] = append(slices.Clone(f.rules[id-1]), v)
	m[c.folder] = f
}

// last is the last version of a rule, if there is one that is not deleted.
func (f shelf) last(id int64) (api.Version, bool) {
	if id < 1 || id > int64(len(f.rules)) {
		return api.Version{}, false
	}
	l := f.rules[id-1]
	v := l[len(l)-1]
	return v, !v.Deleted
}

func (f shelf) lasts() []api.Version {
	var l []api.Version
	for i := range f.rules {
		if v, ok := f.last(int64(i) + 1); ok {
			l = append(l, v)
		}
	}
	return l
}

// reads is calls by which an admin sees all that there is.
func (m model) reads() []call {
	l := []call{foldersOf(root()), all()}
	for name, f := range m {
		l = append(l, folderOf(root(), name), list(root(), name))
		for id := range int64(len(f.rules)) + 1 {
			l = append(l, history(root(), name, id+1), get(root(), name, id+1))
		}
	}
	return l
}
