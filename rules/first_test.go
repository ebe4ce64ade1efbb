package rules_test

import (
	"math"
	"slices"
	"strconv"
	"strings"
	"testing"

	"klaxon/api"
	"klaxon/disk"
	"klaxon/kv"
	"klaxon/rules"
)

// eachCall is all calls, such as root could make them of the folder ops with one
// rule of one version: all are OK.
func eachCall() []call {
	return []call{
		addFolder(root(), "new"), setGrants(root(), "ops", toUser("ann", api.LevelView)), folderOf(root(), "ops"), foldersOf(root()),
		create(root(), 5, full("ops", "u")), update(root(), 5, 1, 1, full("ops", "u")), remove(root(), 5, "ops", 1, 1),
		get(root(), "ops", 1), history(root(), "ops", 1), list(root(), "ops"), all(),
	}
}

// worse is the call with more wrong in it: who may not be, at no time, of no
// folder, with what is refused.
func worse(c call) call {
	c = c.by(api.User{}).in("No")
	c.at, c.id, c.number, c.rule.Title = -1, -1, -1, ""
	c.grants = []api.Grant{{}}
	return c
}

// P16.1, P16.6: each call on a nil Tx is ErrNone, whatever else is wrong.
func TestNilTx(t *testing.T) {
	for _, c := range eachCall() {
		for _, x := range []call{c, worse(c)} {
			if a := x.do(nil); !same(a, answer{Err: api.ErrNone}) {
				t.Errorf("%s: %s", brief(x), brief(a))
			}
		}
	}
}

// P16.1, P16.6: each call behind the end of a transaction is ErrDone, whatever
// else is wrong; that it only read is behind that.
func TestEnded(t *testing.T) {
	w := ops(t, 1)
	w.commit()
	isErr(t, "Abort", w.tx.Abort(), api.OK)
	for _, begin := range []func(*kv.DB) (*kv.Tx, api.Errno){(*kv.DB).Begin, (*kv.DB).View} {
		for _, end := range []func(*kv.Tx) api.Errno{(*kv.Tx).Commit, (*kv.Tx).Abort} {
			tx, err := begin(w.db)
			isErr(t, "the beginning", err, api.OK)
			isErr(t, "the end", end(tx), api.OK)
			for _, c := range eachCall() {
				for _, x := range []call{c, worse(c)} {
					if a := x.do(tx); !same(a, answer{Err: api.ErrDone}) {
						t.Errorf("%s: %s", brief(x), brief(a))
					}
				}
			}
		}
	}
}

// P16.1: in a transaction that only reads, each call that changes something is
// ErrRead, whatever else is wrong, and changes nothing; the others answer as
// ever.
func TestOnlyRead(t *testing.T) {
	w := ops(t, 2)
	w.commit()
	v := w.view()
	for _, c := range eachCall() {
		for _, x := range []call{c, worse(c)} {
			want := answer{Err: api.ErrRead}
			if !x.writes() {
				want = w.m.do(x)
			}
			if a := x.do(v); !same(a, want) {
				t.Errorf("%s: %s, want %s", brief(x), brief(a), brief(want))
			}
		}
	}
	w.unchanged("ErrRead", v)
	isErr(t, "Commit", v.Commit(), api.OK)
}

// breakDown is a world whose disk failed in a commit; the View was begun ahead.
func breakDown(t *testing.T) (*world, *kv.Tx) {
	t.Helper()
	w := ops(t, 1)
	w.commit()
	v := w.view()
	isErr(t, "Put", w.tx.Put("other", "k", "v"), api.OK)
	w.disk.Arm(0)
	isErr(t, "Commit", w.tx.Commit(), api.ErrDead)
	return w, v
}

// P16.1, P16.6: where the DB is broken, each call is ErrBroken, whatever else is
// wrong.
func TestBroken(t *testing.T) {
	w, v := breakDown(t)
	for range 2 {
		for _, c := range eachCall() {
			for _, x := range []call{c, worse(c)} {
				if a := x.do(v); !same(a, answer{Err: api.ErrBroken}) {
					t.Errorf("%s: %s", brief(x), brief(a))
				}
			}
		}
		w.disk.Crash(nil)
	}
}

// P16.1, P16.6: what the disk answers is told.
func TestDiskWithoutPower(t *testing.T) {
	w := ops(t, 1)
	w.commit()
	cutPower(w.disk)
	for _, c := range eachCall() {
		if a := c.do(w.tx); !same(a, answer{Err: api.ErrDead}) {
			t.Errorf("%s: %s", brief(c), brief(a))
		}
	}
	w.disk.Crash(nil)
	w.unchanged("the power is back", w.tx)
}

func cutPower(d *disk.Disk) {
	d.Arm(0)
	d.Sync()
}

// P16.1: each call with a user who may not be is ErrGrant, ahead of what else is
// wrong but with the transaction.
func TestWhoMayNotBe(t *testing.T) {
	w := ops(t, 1)
	for _, u := range noUsers() {
		for _, c := range eachCall() {
			if c.name != "All" {
				w.wants("who may not be", c.by(u), api.ErrGrant)
				w.wants("who may not be", worse(c).by(u), api.ErrGrant)
			}
		}
	}
	w.wants("who may be", list(user(strings.Repeat("-", api.MaxFolder), "admin", strings.Fields("a b c d e f g h")...), "ops"), api.OK)
}

// P16.1: a time that may not be is ErrArg, ahead of what else is wrong but the
// user; those at the edges are taken, and kept.
func TestTimes(t *testing.T) {
	w := ops(t, 1)
	for _, at := range []int64{-1, -maxTime, math.MinInt64, maxTime + 1, math.MaxInt64} {
		for _, c := range eachCall() {
			if c.name != "Create" && c.name != "Update" && c.name != "Delete" {
				continue
			}
			for _, x := range []call{c, c.in("none"), c.in("No"), c.by(bob()), worse(c).by(bob())} {
				x.at = at
				w.wants("at "+strconv.FormatInt(at, 10), x, api.ErrArg)
			}
		}
	}
	for i, at := range []int64{0, 1, maxTime - 1, maxTime} {
		id := w.wants("Create", create(ann(), at, full("ops", "t")), api.OK).Id
		w.wants("Update", update(ann(), at, id, 1, full("ops", "u")), api.OK)
		w.wants("Delete", remove(ann(), at, "ops", id, 2), api.OK)
		l := w.wants("History", history(ann(), "ops", id), api.OK).Versions
		if id != int64(i)+2 || len(l) != 3 || l[0].At != at || l[1].At != at || l[2].At != at {
			t.Errorf("at %d: rule %d, %s", at, id, brief(l))
		}
	}
	w.unchanged("all", w.tx)
}

// P16.1: of a folder that is not there an admin is told so; whoever is not, that
// it may not be seen.
func TestFolderThatIsNotThere(t *testing.T) {
	w := ops(t, 1)
	for _, name := range append(noNames(), "op", "opss", "ops-", "o", "none") {
		for _, c := range eachCall() {
			if c.name == "AddFolder" || c.name == "Folders" || c.name == "All" {
				continue
			}
			for _, x := range []call{c.in(name), worse(c).in(name)} {
				x.at = 1
				w.wants("no folder", x.by(root()), api.ErrNone)
				w.wants("no folder", x.by(user("ann", "admin", "red")), api.ErrNone)
				for _, u := range []api.User{ann(), bob(), user("admin", "viewer", "admin"), user("root", "editor")} {
					w.wants("no folder", x.by(u), api.ErrDenied)
				}
			}
		}
	}
}

// P16.1: each call by users whose Level is one below what is asked, just that,
// and above, by grants of each kind.
func TestLevels(t *testing.T) {
	asked := map[string]int{
		"SetGrants": api.LevelAdmin, "Folder": api.LevelView, "Create": api.LevelEdit, "Update": api.LevelEdit, "Delete": api.LevelEdit,
		"Get": api.LevelView, "History": api.LevelView, "List": api.LevelView,
	}
	for _, give := range []func(level int) api.Grant{
		func(level int) api.Grant { return toUser("ann", level) },
		func(level int) api.Grant { return toTeam("blue", level) },
		func(level int) api.Grant { return toRole("editor", level) },
	} {
		for level := api.LevelNone; level <= api.LevelAdmin; level++ {
			for _, c := range eachCall() {
				if asked[c.name] == 0 {
					continue
				}
				w := ops(t, 1)
				others := []api.Grant{toUser("red", 3), toTeam("ann", 3), toRole("viewer", 3)}
				if level > api.LevelNone {
					others = append(others, give(level))
				}
				w.wants("SetGrants", setGrants(root(), "ops", others...), api.OK)
				want := api.OK
				if level < asked[c.name] {
					want = api.ErrDenied
					w.wants("a level below", worse(c).in("ops").by(ann()).atTime(1), want)
				}
				w.wants("level "+strconv.Itoa(level), c.by(ann()), want)
				w.wants("an admin", list(user("ann", "admin"), "ops"), api.OK)
			}
		}
	}
}

func (c call) atTime(at int64) call {
	c.at = at
	return c
}

// fault is one thing that may be wrong with a call.
type fault struct {
	err api.Errno
	do  func(c *call)
}

// chain is a call of ann's that is OK, and what may be wrong with it, in the
// order in which it is told.
type chain struct {
	c      call
	faults []fault
}

func chains() []chain {
	who := fault{api.ErrGrant, func(c *call) { c.user.Teams = []string{"A"} }}
	when := fault{api.ErrArg, func(c *call) { c.at = maxTime + 1 }}
	right := fault{api.ErrDenied, func(c *call) { c.user.Name = "bob" }}
	id := fault{api.ErrNone, func(c *call) { c.id = 9 }}
	number := fault{api.ErrVersion, func(c *call) { c.number = 7 }}
	title := fault{api.ErrRule, func(c *call) { c.rule.Title = "" }}
	node := fault{api.ErrNone, func(c *call) { c.rule.Condition = "Z" }}
	most := fault{api.ErrMany, func(c *call) { c.id, c.number = 2, api.MaxVersions }}
	crowd := fault{api.ErrMany, func(c *call) { *c = c.in("crowd") }}
	many := fault{api.ErrMany, func(c *call) { c.grants = make([]api.Grant, api.MaxGrants+1) }}
	grant := fault{api.ErrGrant, func(c *call) { c.grants = append(c.grants, toUser("ann", 0)) }}
	twice := fault{api.ErrThere, func(c *call) { c.grants = append(c.grants, toUser("ann", 3), toUser("ann", 3)) }}
	role := fault{api.ErrDenied, func(c *call) { c.user.Role = "editor" }}
	name := fault{api.ErrGrant, func(c *call) { c.folder = "New" }}
	there := fault{api.ErrThere, func(c *call) { c.folder = "crowd" }}

	ofRoot := user("root", "admin")
	return []chain{
		{addFolder(ofRoot, "new"), []fault{who, role, name}},
		{addFolder(ofRoot, "new"), []fault{who, role, there}},
		{setGrants(ann(), "ops", toUser("ann", 3)), []fault{who, right, many, grant, twice}},
		{folderOf(ann(), "ops"), []fault{who, right}},
		{foldersOf(ann()), []fault{who}},
		{create(ann(), 1, full("ops", "u")), []fault{who, when, right, title, node, crowd}},
		{update(ann(), 1, 1, 1, full("ops", "u")), []fault{who, when, right, id, number, title, node, most}},
		{remove(ann(), 1, "ops", 1, 1), []fault{who, when, right, id, number, most}},
		{get(ann(), "ops", 1), []fault{who, right, id}},
		{history(ann(), "ops", 1), []fault{who, right, id}},
		{list(ann(), "ops"), []fault{who, right}},
	}
}

// crowded is a world with a rule of MaxVersions versions in ops, and a folder
// crowd of MaxRules rules; in both ann has all rights.
func crowded(t *testing.T) *world {
	t.Helper()
	w := ops(t, 2)
	w.folder("crowd", toUser("ann", api.LevelAdmin))
	w.wants("SetGrants", setGrants(root(), "ops", toUser("ann", api.LevelAdmin)), api.OK)
	for n := int64(1); n < api.MaxVersions; n++ {
		w.wants("Update", update(ann(), n, 2, n, some("ops", "v")), api.OK)
	}
	for range api.MaxRules {
		w.wants("Create", create(ann(), 1, some("crowd", "t")), api.OK)
	}
	return w
}

// P16.1, P16.2, P16.4, P16.5: of several errors the one that the document names
// first is told, whichever others there are; with any, nothing is changed, so
// that there is nothing to commit.
func TestTheFirstErrorIsTold(t *testing.T) {
	w := crowded(t)
	w.commit()
	seq := w.db.Seq()
	for _, x := range chains() {
		for set := 1; set < 1<<len(x.faults); set++ {
			c, want := x.c, api.OK
			c.grants = slices.Clone(c.grants)
			for i := len(x.faults) - 1; i >= 0; i-- {
				if set>>i&1 == 1 {
					x.faults[i].do(&c)
					want = x.faults[i].err
				}
			}
			if a := w.do("faults "+strconv.FormatInt(int64(set), 2), c); a.Err != want {
				t.Fatalf("faults %b: %s: error %d, want %d", set, brief(c), a.Err, want)
			}
		}
		w.unchanged("the faults of "+x.c.name, w.tx)
	}
	w.commit()
	if w.db.Seq() != seq {
		t.Errorf("refused calls were committed: Seq %d, was %d", w.db.Seq(), seq)
	}
	for _, x := range chains() {
		w.wants("without a fault", x.c, api.OK)
		isErr(t, "Abort", w.tx.Abort(), api.OK)
		w = crowded(t)
	}
}

// P16.3 to P16.6: calls that only read change nothing either.
func TestReadsChangeNothing(t *testing.T) {
	w := ops(t, 3)
	w.commit()
	seq := w.db.Seq()
	for _, c := range eachCall() {
		if !c.writes() {
			w.wants("a read", c, api.OK)
		}
	}
	w.commit()
	if w.db.Seq() != seq {
		t.Errorf("reads were committed: Seq %d, was %d", w.db.Seq(), seq)
	}
}

// P16.6: All has no user, and needs none.
func TestAllNeedsNobody(t *testing.T) {
	w := ops(t, 2)
	if l, err := rules.All(w.tx); err != api.OK || len(l) != 2 {
		t.Errorf("All: %s, error %d", brief(l), err)
	}
}
