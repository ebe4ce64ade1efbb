package rules_test

import (
	"reflect"
	"slices"
	"strings"
	"testing"

	"klaxon/api"
	"klaxon/btree"
	"klaxon/disk"
	"klaxon/kv"
	"klaxon/meta"
	"klaxon/page"
	"klaxon/rules"
)

// roomy is the list with spare room behind it, in which x stands.
func roomy[T any](x T, l ...T) []T {
	return append(slices.Clone(l), x, x)[:len(l)]
}

// whole is the list with its spare room.
func whole[T any](l []T) []T { return l[:cap(l)] }

// roomyCall is the call in which each list has spare room.
func roomyCall(c call) call {
	c.user.Teams = roomy("spare", c.user.Teams...)
	c.grants = roomy(toUser("spare", 3), c.grants...)
	c.rule.Labels = roomy(api.Label{Name: "spare", Value: "spare"}, c.rule.Labels...)
	c.rule.Nodes = roomy(api.Node{Ref: "Spare", Kind: api.NodeQuery, Source: "s"}, c.rule.Nodes...)
	return c
}

// deep is the call with the spare room of its lists, as a copy that shares
// nothing.
func deep(c call) call {
	c.user.Teams = slices.Clone(whole(c.user.Teams))
	c.grants = slices.Clone(whole(c.grants))
	c.rule.Labels = slices.Clone(whole(c.rule.Labels))
	c.rule.Nodes = slices.Clone(whole(c.rule.Nodes))
	return c
}

func scribble[T any](l []T, x T) {
	for i := range whole(l) {
		whole(l)[i] = x
	}
}

func scribbleRule(r api.Rule) {
	scribble(r.Labels, api.Label{Name: "scribble", Value: "scribble"})
	scribble(r.Nodes, api.Node{Ref: "Scribble", Kind: 77})
}

func scribbleCall(c call) {
	scribble(c.user.Teams, "Scribble")
	scribble(c.grants, toUser("Scribble", 77))
	scribbleRule(c.rule)
}

func scribbleAnswer(a answer) {
	scribble(a.Folder.Grants, toUser("Scribble", 77))
	scribble(a.Names, "Scribble")
	for _, v := range a.Versions {
		scribbleRule(v.Rule)
	}
	scribble(a.Versions, version(77, 77, "Scribble", 77, api.Rule{}))
}

// handed is calls that are OK, one behind the other, and such that are refused.
func handed() []call {
	root, ann := user("root", "admin", "a", "b"), user("ann", "editor", "red", "blue")
	turned := full("ops", "t")
	slices.Reverse(turned.Labels)
	grants := []api.Grant{toUser("z", 3), toTeam("red", 2), toRole("admin", 1)}
	return []call{
		addFolder(root, "ops"), addFolder(root, "ops"), addFolder(ann, "new"), setGrants(root, "ops", grants...), setGrants(ann, "ops", grants...),
		setGrants(root, "ops", toUser("b", 1), toUser("a", 1), toUser("b", 1)), folderOf(ann, "ops"), foldersOf(ann),
		create(ann, 1, full("ops", "t")), create(ann, 1, turned), create(ann, 1, full("ops", "u")), update(ann, 1, 1, 1, full("ops", "v")),
		update(ann, 1, 1, 2, turned), update(ann, 1, 1, 1, full("ops", "w")), get(ann, "ops", 1), history(ann, "ops", 1), list(ann, "ops"), all(),
		remove(ann, 1, "ops", 1, 2), remove(ann, 1, "ops", 1, 2), list(user("a", "viewer", "B", "a"), "ops"),
	}
}

// P16.1 to P16.6: nothing that is handed in is changed, by calls that are
// refused neither, and nothing of it is kept.
func TestNothingIsChangedAndKept(t *testing.T) {
	w := fresh(t)
	for _, c := range handed() {
		want := w.m.do(c)
		c = roomyCall(c)
		ahead := deep(c)
		if a := c.do(w.tx); !same(a, want) {
			t.Fatalf("%s: %s, want %s", brief(c), brief(a), brief(want))
		}
		if behind := deep(c); !reflect.DeepEqual(behind, ahead) {
			t.Fatalf("%s changed what was handed in: %s, was %s", c.name, brief(behind), brief(ahead))
		}
		scribbleCall(c)
		w.unchanged("what was handed in is changed", w.tx)
	}
}

// P16.3, P16.5, P16.6: what is answered is new each time: it shares nothing with
// another answer, or with what is kept.
func TestAnswersShareNothing(t *testing.T) {
	w := ops(t, 3)
	w.wants("Update", update(ann(), 1, 1, 1, full("ops", "u")), api.OK)
	w.folder("more", toUser("ann", 1), toTeam("red", 2))
	for range 2 {
		for _, c := range append(w.m.reads(), foldersOf(ann()), history(ann(), "ops", 1)) {
			first, again := c.do(w.tx), c.do(w.tx)
			scribbleAnswer(first)
			if want := w.m.do(c); !same(again, want) {
				t.Fatalf("two answers of %s share something: %s, want %s", c.name, brief(again), brief(want))
			}
			scribbleAnswer(again)
			w.unchanged("an answer is changed", w.tx)
		}
		w.commit()
	}
}

// P16.5: lists of one answer share nothing with one another.
func TestListsOfOneAnswerShareNothing(t *testing.T) {
	w := ops(t, 2)
	w.wants("Update", update(ann(), 1, 1, 1, full("ops", "t1")), api.OK)
	for _, c := range []call{history(ann(), "ops", 1), list(ann(), "ops"), all()} {
		l, want := c.do(w.tx).Versions, w.m.do(c).Versions
		scribbleRule(l[0].Rule)
		if !same(answer{Versions: l[1:]}, answer{Versions: want[1:]}) {
			t.Errorf("%s: %s", c.name, brief(l[1:]))
		}
	}
}

// P16.2, P16.4: nil and an empty list are the same.
func TestNilAndEmpty(t *testing.T) {
	w := ops(t, 0)
	for i, l := range [][]api.Label{nil, {}, make([]api.Label, 0, 4)} {
		r := some("ops", "t")
		r.Labels = l
		w.wants("no labels", create(ann(), 1, r), api.OK)
		w.wants("no labels", update(ann(), 1, int64(i)+1, 1, r), api.OK)
	}
	for _, l := range [][]api.Grant{nil, {}, make([]api.Grant, 0, 4)} {
		w.wants("no grants", setGrants(root(), "ops", l...), api.OK)
		hasFolder(t, "no grants", w.do("Folder", folderOf(root(), "ops")), "ops", 4)
	}
	u := root()
	u.Teams = []string{}
	w.wants("no teams", list(u, "ops"), api.OK)
}

// others is what lies in buckets that are not those of rules, at keys that are
// like theirs.
func others() map[string][]string {
	keys := []string{"", "ops", "\xa0ops\x00\x00\x00\x00\x00\x03", "\xa0ops\x00\x00\x00\x00\x00\x03\x81\x01", "\x00", "\xff", strings.Repeat("\xff", api.MaxInner)}
	return map[string][]string{"q": keys, "qrule": keys, "s": keys, "x": keys, "xrules": keys, "folder": keys, "last": keys, "a": keys, "zzzzzzzz": keys}
}

func putOthers(t *testing.T, tx *kv.Tx) {
	t.Helper()
	for bucket, keys := range others() {
		for _, key := range keys {
			isErr(t, "Put", tx.Put(bucket, key, bucket+key), api.OK)
		}
	}
}

func hasOthers(t *testing.T, tx *kv.Tx) {
	t.Helper()
	for bucket, keys := range others() {
		l, err := tx.Scan(bucket, "", "", 100)
		if err != api.OK || len(l) != len(keys) {
			t.Fatalf("bucket %s: %q, error %d", bucket, l, err)
		}
		for _, p := range l {
			if !slices.Contains(keys, p.Key) || p.Value != bucket+p.Key {
				t.Fatalf("bucket %s: %q", bucket, p)
			}
		}
	}
}

// nodes reads a tree's pages as chapter 6 says that they lie on the disk.
type nodes struct{ d *disk.Disk }

func (n nodes) Room() int                   { return page.Room(per * size) }
func (n nodes) Lay([]byte) (int, api.Errno) { return 0, api.ErrFull }
func (n nodes) Load(id int) ([]byte, api.Errno) {
	x, err := page.Read(n.d, per, id)
	return x.Load, err
}

// DOC's layers, chapter 16: all lies in buckets whose names begin with r; what
// lies in others is not touched, and has no part.
func TestOtherBuckets(t *testing.T) {
	w := fresh(t)
	putOthers(t, w.tx)
	w.commit()
	hasVersions(t, "All of no folder", w.do("All", all()))
	hasNames(t, "Folders", w.do("Folders", foldersOf(root())))
	w.folder("ops", toUser("ann", api.LevelEdit))
	w.folder("p")
	for range 3 {
		for _, c := range append(eachCall(), handed()...) {
			w.do("any call", c)
		}
		hasOthers(t, w.tx)
		w.commit()
	}
	w.unchanged("all calls", w.tx)
	hasOthers(t, w.tx)

	m, err := meta.Best(w.disk, per)
	isErr(t, "Best", err, api.OK)
	pairs, err := btree.Scan(nodes{w.disk}, api.Tree{Root: m.Root, Keys: m.Keys, Depth: m.Depth}, "", "")
	isErr(t, "Scan", err, api.OK)
	for _, p := range pairs {
		bucket := strings.TrimRight(p.Key[:api.MaxBucket], "\x00")
		if _, other := others()[bucket]; !other && bucket[0] != 'r' {
			t.Errorf("a key in bucket %s", bucket)
		}
	}
}

// P16.1: what a transaction does others see behind its commit, and not at all, if
// it is not committed.
func TestTransactions(t *testing.T) {
	w := ops(t, 2)
	w.commit()
	ahead, safe := w.view(), w.m.copied()
	w.wants("Update", update(ann(), 1, 1, 1, some("ops", "u")), api.OK)
	w.wants("Delete", remove(ann(), 1, "ops", 2, 1), api.OK)
	w.folder("new")
	now := w.m
	w.m = safe
	w.unchanged("a commit that is to come", ahead)
	w.unchanged("a commit that is to come", w.view())
	w.m = now.copied()
	w.commit()
	w.unchanged("a commit", w.view())
	w.m = safe
	w.unchanged("a commit behind it", ahead)
	isErr(t, "Abort", ahead.Abort(), api.OK)

	w.m = now.copied()
	w.wants("Create", create(ann(), 1, some("ops", "t")), api.OK)
	w.wants("Delete", remove(ann(), 1, "ops", 1, 2), api.OK)
	isErr(t, "Abort", w.tx.Abort(), api.OK)
	w.m = now
	w.begin()
	w.unchanged("Abort", w.tx)
	w.disk.Crash(nil)
	w.open()
	w.unchanged("a crash", w.tx)
}

// P16.4: two DBs have nothing to do with one another.
func TestOneDBBesideAnother(t *testing.T) {
	a, b := ops(t, 1), fresh(t)
	b.folder("ops", toUser("ann", api.LevelEdit))
	if x := b.wants("Create", create(ann(), 1, some("ops", "b")), api.OK); x.Id != 1 {
		t.Errorf("rule %d", x.Id)
	}
	a.unchanged("what is done in the other one", a.tx)
}

// P16.4: what there is no room for is refused by Commit alone, and nothing was.
func TestNoRoom(t *testing.T) {
	d, err := disk.New(12*per, size)
	isErr(t, "New", err, api.OK)
	isErr(t, "Format", kv.Format(d, per), api.OK)
	w := &world{T: t, disk: d, m: model{}}
	w.open()
	w.folder("ops", toUser("ann", api.LevelEdit))
	w.wants("Create", create(ann(), 1, full("ops", "t")), api.OK)
	w.commit()
	safe := w.m.copied()
	for range api.MaxRules - 1 {
		w.wants("Create", create(ann(), 1, long("ops", 5000)), api.OK)
	}
	isErr(t, "Commit", w.tx.Commit(), api.ErrFull)
	w.begin()
	w.m = safe
	w.unchanged("ErrFull", w.tx)
	if id, err := rules.Create(w.tx, ann(), 1, some("ops", "t")); id != 2 || err != api.OK {
		t.Errorf("Create: %d, error %d", id, err)
	}
	isErr(t, "Commit", w.tx.Commit(), api.OK)
}
