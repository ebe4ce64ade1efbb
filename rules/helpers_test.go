package rules_test

import (
	"fmt"
	"reflect"
	"slices"
	"strconv"
	"strings"
	"testing"

	"klaxon/api"
	"klaxon/disk"
	"klaxon/kv"
	"klaxon/rules"
)

const (
	maxTime = int64(1) << 40
	per     = 8
	size    = 256
	sectors = 20000
)

// call is one of the calls with its arguments; which of these have a part is
// told by its name.
type call struct {
	name   string
	user   api.User
	at     int64
	folder string // of Create and Update: their rule's
	id     int64
	number int64
	rule   api.Rule
	grants []api.Grant
}

// answer is what a call answers: each result that is not zero is in it, also
// beside an error.
type answer struct {
	Err      api.Errno
	Id       int64
	Folder   api.Folder
	Names    []string
	Versions []api.Version
}

func addFolder(u api.User, name string) call {
	return call{name: "AddFolder", user: u, folder: name}
}

func setGrants(u api.User, folder string, l ...api.Grant) call {
	return call{name: "SetGrants", user: u, folder: folder, grants: l}
}

func folderOf(u api.User, name string) call { return call{name: "Folder", user: u, folder: name} }

func foldersOf(u api.User) call { return call{name: "Folders", user: u} }

func create(u api.User, at int64, r api.Rule) call {
	return call{name: "Create", user: u, at: at, folder: r.Folder, rule: r}
}

func update(u api.User, at, id, number int64, r api.Rule) call {
	return call{name: "Update", user: u, at: at, folder: r.Folder, id: id, number: number, rule: r}
}

func remove(u api.User, at int64, folder string, id, number int64) call {
	return call{name: "Delete", user: u, at: at, folder: folder, id: id, number: number}
}

func get(u api.User, folder string, id int64) call {
	return call{name: "Get", user: u, folder: folder, id: id}
}

func history(u api.User, folder string, id int64) call {
	return call{name: "History", user: u, folder: folder, id: id}
}

func list(u api.User, folder string) call { return call{name: "List", user: u, folder: folder} }

func all() call { return call{name: "All"} }

// in is the call, but of that folder.
func (c call) in(folder string) call {
	c.folder, c.rule.Folder = folder, folder
	return c
}

func (c call) by(u api.User) call {
	c.user = u
	return c
}

// writes is whether the call is one that changes something.
func (c call) writes() bool {
	return slices.Contains([]string{"AddFolder", "SetGrants", "Create", "Update", "Delete"}, c.name)
}

// do is what the call answers in that transaction.
func (c call) do(tx *kv.Tx) answer {
	var a answer
	var v api.Version
	switch c.name {
	case "AddFolder":
		a.Err = rules.AddFolder(tx, c.user, c.folder)
	case "SetGrants":
		a.Err = rules.SetGrants(tx, c.user, c.folder, c.grants...)
	case "Folder":
		a.Folder, a.Err = rules.Folder(tx, c.user, c.folder)
	case "Folders":
		a.Names, a.Err = rules.Folders(tx, c.user)
	case "Create":
		a.Id, a.Err = rules.Create(tx, c.user, c.at, c.rule)
	case "Update":
		a.Err = rules.Update(tx, c.user, c.at, c.id, c.number, c.rule)
	case "Delete":
		a.Err = rules.Delete(tx, c.user, c.at, c.folder, c.id, c.number)
	case "Get":
		v, a.Err = rules.Get(tx, c.user, c.folder, c.id)
	case "History":
		a.Versions, a.Err = rules.History(tx, c.user, c.folder, c.id)
	case "List":
		a.Versions, a.Err = rules.List(tx, c.user, c.folder)
	case "All":
		a.Versions, a.Err = rules.All(tx)
	default:
		panic(c.name)
	}
	if !reflect.DeepEqual(v, api.Version{}) {
		a.Versions = []api.Version{v}
	}
	return a
}

// same takes nil and an empty list for the same.
func same(a, b answer) bool { return reflect.DeepEqual(tidy(a), tidy(b)) }

func tidy(a answer) answer {
	a.Folder.Grants = orNil(a.Folder.Grants)
	a.Names = orNil(a.Names)
	a.Versions = orNil(slices.Clone(a.Versions))
	for i := range a.Versions {
		r := &a.Versions[i].Rule
		r.Labels, r.Nodes = orNil(r.Labels), orNil(r.Nodes)
	}
	return a
}

func orNil[T any](l []T) []T {
	if len(l) == 0 {
		return nil
	}
	return l
}

// brief keeps long answers out of what a test tells.
func brief(x any) string {
	s := fmt.Sprintf("%+v", x)
	if len(s) > 600 {
		return s[:600] + ".."
	}
	return s
}

func user(name, role string, teams ...string) api.User {
	return api.User{Name: name, Role: role, Teams: teams}
}

// root may all; ann is an editor and bob a viewer, which gives them nothing by
// itself.
func root() api.User { return user("root", "admin") }

func ann() api.User { return user("ann", "editor", "red", "blue") }

func bob() api.User { return user("bob", "viewer") }

func toUser(name string, level int) api.Grant {
	return api.Grant{Kind: api.GrantUser, Name: name, Level: level}
}

func toTeam(name string, level int) api.Grant {
	return api.Grant{Kind: api.GrantTeam, Name: name, Level: level}
}

func toRole(name string, level int) api.Grant {
	return api.Grant{Kind: api.GrantRole, Name: name, Level: level}
}

// some is a rule with as little in it as there may be, but for its title.
func some(folder, title string) api.Rule {
	return api.Rule{
		Folder: folder, Group: "g", Title: title, Interval: 10, NoData: api.PolicyState, OnError: api.PolicyState,
		Nodes: []api.Node{{Ref: "A", Kind: api.NodeQuery, Source: "s"}}, Condition: "A",
	}
}

// full is a rule with something in each field, in other lists each time.
func full(folder, title string) api.Rule {
	return api.Rule{
		Folder: folder, Group: "disk-1", Title: title, Interval: 300, Offset: 7, For: 128, Keep: 127,
		NoData: api.PolicyKeep, OnError: api.PolicyAlert,
		Labels: []api.Label{{Name: "host", Value: "a"}, {Name: "sev", Value: "\xffcrit"}},
		Nodes: []api.Node{
			{Ref: "B", Kind: api.NodeReduce, Input: "A", How: "mean", Strict: true},
			{Ref: "A", Kind: api.NodeQuery, Source: "cpu"},
			{Ref: "C", Kind: api.NodeThreshold, Input: "B", How: "out", Low: api.Value{Kind: api.ValueNum, N: -1500}, High: api.Value{Kind: api.ValuePlus}},
		},
		Condition: "C", Paused: true,
	}
}

// long is a rule with so many blanks behind its expressions.
func long(folder string, blanks int) api.Rule {
	r := some(folder, "long")
	for i := range 9 {
		more := min(blanks, api.MaxExpr-2)
		blanks -= more
		r.Nodes = append(r.Nodes, api.Node{Ref: "M" + strconv.Itoa(i), Kind: api.NodeMath, Text: "$A" + strings.Repeat(" ", more)})
	}
	return r
}

// noNames is texts that are no rule.Name.
func noNames() []string {
	return []string{
		"", " ", "A", "Ops", "opS", "_", "a_b", "a b", "a ", "a.b", "a/b", "ä", "a\x00", "\x00", "a\xff", "\xff", "ops\x00",
		strings.Repeat("a", api.MaxFolder+1), strings.Repeat("a", 60), strings.Repeat("a", api.MaxPart+1), strings.Repeat("a", 100000),
	}
}

// noUsers is who may not be.
func noUsers() []api.User {
	return []api.User{
		{}, user("", "admin"), user("Ann", "editor"), user("ann", ""), user("ann", "boss"), user("ann", "Editor"), user("ann", "admin "),
		user(strings.Repeat("a", api.MaxFolder+1), "admin"), user("root", "admin", "A"), user("root", "admin", "a", ""),
		user("root", "admin", strings.Fields("a b c d e f g h i")...),
	}
}

// world is a DB, a transaction that may write, and the model of what it should
// have.
type world struct {
	*testing.T
	disk *disk.Disk
	db   *kv.DB
	tx   *kv.Tx
	m    model
}

func fresh(t *testing.T) *world {
	t.Helper()
	d, err := disk.New(sectors, size)
	isErr(t, "New", err, api.OK)
	isErr(t, "Format", kv.Format(d, per), api.OK)
	w := &world{T: t, disk: d, m: model{}}
	w.open()
	return w
}

// ops is a world with a folder ops, in which ann may edit, and so many rules.
func ops(t *testing.T, count int) *world {
	t.Helper()
	w := fresh(t)
	w.folder("ops", toUser("ann", api.LevelEdit))
	for i := range count {
		w.wants("Create", create(ann(), int64(i), full("ops", "t"+strconv.Itoa(i+1))), api.OK)
	}
	return w
}

func (w *world) open() {
	w.Helper()
	db, err := kv.Open(w.disk, per)
	isErr(w.T, "Open", err, api.OK)
	w.db = db
	w.begin()
}

func (w *world) begin() {
	w.Helper()
	tx, err := w.db.Begin()
	isErr(w.T, "Begin", err, api.OK)
	w.tx = tx
}

func (w *world) view() *kv.Tx {
	w.Helper()
	tx, err := w.db.View()
	isErr(w.T, "View", err, api.OK)
	return tx
}

// commit ends the transaction, and begins another one.
func (w *world) commit() {
	w.Helper()
	isErr(w.T, "Commit", w.tx.Commit(), api.OK)
	w.begin()
}

// folder adds a folder with these grants.
func (w *world) folder(name string, l ...api.Grant) {
	w.Helper()
	w.wants("AddFolder", addFolder(root(), name), api.OK)
	w.wants("SetGrants", setGrants(root(), name, l...), api.OK)
}

// do is what the call answers, which is held against the model.
func (w *world) do(what string, c call) answer {
	w.Helper()
	got, want := c.do(w.tx), w.m.do(c)
	if !same(got, want) {
		w.Fatalf("%s: %s: %s, want %s", what, brief(c), brief(got), brief(want))
	}
	return got
}

// wants asks that the call answers that error; and with one, that nothing is
// changed.
func (w *world) wants(what string, c call, err api.Errno) answer {
	w.Helper()
	a := w.do(what, c)
	if a.Err != err {
		w.Fatalf("%s: %s: error %d, want %d", what, brief(c), a.Err, err)
	}
	if err != api.OK {
		w.unchanged(what, w.tx)
	}
	return a
}

// unchanged asks that the transaction has just what the model has.
func (w *world) unchanged(what string, tx *kv.Tx) {
	w.Helper()
	for _, c := range w.m.reads() {
		if got, want := c.do(tx), w.m.do(c); !same(got, want) {
			w.Fatalf("behind %s: %s: %s, want %s", what, brief(c), brief(got), brief(want))
		}
	}
}

func isErr(t *testing.T, what string, got, want api.Errno) {
	t.Helper()
	if got != want {
		t.Fatalf("%s: error %d, want %d", what, got, want)
	}
}
