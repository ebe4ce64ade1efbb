package rules_test

import (
	"math"
	"strconv"
	"testing"

	"klaxon/api"
	"klaxon/rule"
)

// hasVersions asks that the answer is these versions.
func hasVersions(t *testing.T, what string, a answer, want ...api.Version) {
	t.Helper()
	if !same(a, answer{Versions: want}) {
		t.Errorf("%s: %s, want %s", what, brief(a), brief(want))
	}
}

func version(id, number int64, by string, at int64, r api.Rule) api.Version {
	return api.Version{Id: id, Number: number, By: by, At: at, Rule: r}
}

// P16.4: the first version of a rule, its Id, and the next one.
func TestCreate(t *testing.T) {
	w := fresh(t)
	w.folder("ops", toUser("ann", api.LevelEdit))
	w.folder("dev", toUser("bob", api.LevelEdit))
	for i, c := range []call{
		create(ann(), 7, full("ops", "t")), create(root(), 0, some("ops", "t")), create(ann(), maxTime, full("ops", "\x00")),
	} {
		id := int64(i) + 1
		if a := w.wants("Create", c, api.OK); a.Id != id {
			t.Errorf("rule %d, want %d", a.Id, id)
		}
		want := version(id, 1, c.user.Name, c.at, c.rule)
		hasVersions(t, "Get", w.do("Get", get(ann(), "ops", id)), want)
		hasVersions(t, "History", w.do("History", history(ann(), "ops", id)), want)
		hasFolder(t, "Folder", w.do("Folder", folderOf(ann(), "ops")), "ops", id+1, toUser("ann", api.LevelEdit))
	}
	if a := w.wants("Create", create(bob(), 1, some("dev", "t")), api.OK); a.Id != 1 {
		t.Errorf("the first rule of another folder: %d", a.Id)
	}
	w.unchanged("all", w.tx)
}

// ruleFaults is what may be wrong with a rule, and what rule.Check says of it.
func ruleFaults() []fault {
	return []fault{
		{api.ErrRule, func(c *call) { c.rule.Group = "G" }},
		{api.ErrRule, func(c *call) { c.rule.Title = "" }},
		{api.ErrRule, func(c *call) { c.rule.Interval = 0 }},
		{api.ErrRule, func(c *call) { c.rule.Labels = []api.Label{{Name: "b", Value: "1"}, {Name: "a", Value: "1"}} }},
		{api.ErrNode, func(c *call) { c.rule.Nodes = []api.Node{{Ref: "A"}} }},
		{api.ErrMany, func(c *call) { c.rule.Nodes = make([]api.Node, api.MaxNodes+1) }},
		{api.ErrNone, func(c *call) { c.rule.Condition = "Z" }},
		{api.ErrThere, func(c *call) { c.rule.Nodes = append(c.rule.Nodes, c.rule.Nodes[0]) }},
		{api.ErrCycle, func(c *call) {
			c.rule.Nodes = append(c.rule.Nodes, api.Node{Ref: "X", Kind: api.NodeMath, Text: "$X"})
		}},
		{api.ErrLong, func(c *call) { c.rule = long(c.folder, api.MaxRule) }},
	}
}

// P16.4: rules that rule.Check refuses, with its error: no rule is made, and none
// is changed.
func TestRulesThatMayNotBe(t *testing.T) {
	w := ops(t, 1)
	for i, f := range ruleFaults() {
		c, u := create(ann(), 1, full("ops", "t")), update(ann(), 1, 1, 1, full("ops", "t"))
		f.do(&c)
		f.do(&u)
		w.wants("Create, fault "+strconv.Itoa(i), c, f.err)
		w.wants("Update, fault "+strconv.Itoa(i), u, f.err)
		w.wants("Create by bob", c.by(bob()), api.ErrDenied)
		w.wants("Update by bob", u.by(bob()), api.ErrDenied)
	}
	hasFolder(t, "behind it", w.do("Folder", folderOf(ann(), "ops")), "ops", 2, toUser("ann", api.LevelEdit))
}

// P16.4: rules as long as there may be, as many versions as there may be; one of
// a byte more is refused.
func TestLongRules(t *testing.T) {
	w := ops(t, 0)
	blanks := api.MaxRule
	for rule.Check(long("ops", blanks)) != api.OK {
		blanks--
	}
	w.wants("Create", create(ann(), 1, long("ops", blanks)), api.OK)
	for n := int64(1); n < api.MaxVersions; n++ {
		w.wants("Update", update(ann(), n, 1, n, long("ops", blanks-int(n))), api.OK)
	}
	w.wants("Create", create(ann(), 1, long("ops", blanks+1)), api.ErrLong)
	w.commit()
	w.unchanged("long rules", w.tx)
}

// P16.4: MaxRules that are not deleted, and one more; where one was deleted, there
// is room again, and the Ids go on.
func TestAsManyRulesAsThereMayBe(t *testing.T) {
	w := ops(t, api.MaxRules-1)
	w.folder("other", toUser("ann", api.LevelEdit))
	last := w.wants("the last one", create(ann(), 1, some("ops", "t")), api.OK)
	if last.Id != api.MaxRules {
		t.Errorf("the last one: %d", last.Id)
	}
	w.wants("one more", create(ann(), 1, some("ops", "t")), api.ErrMany)
	w.wants("one more", create(root(), 1, some("ops", "t")), api.ErrMany)
	w.wants("one more that may not be", create(ann(), 1, some("ops", "")), api.ErrRule)
	w.wants("another folder", create(ann(), 1, some("other", "t")), api.OK)
	w.wants("an update", update(ann(), 1, 3, 1, some("ops", "u")), api.OK)
	w.wants("still", create(ann(), 1, some("ops", "t")), api.ErrMany)
	for i, id := range []int64{api.MaxRules, 1, api.MaxRules + 2} {
		w.wants("Delete", remove(ann(), 1, "ops", id, 1), api.OK)
		if a := w.wants("again", create(ann(), 1, some("ops", "t")), api.OK); a.Id != api.MaxRules+1+int64(i) {
			t.Errorf("again: rule %d", a.Id)
		}
		w.wants("one more", create(ann(), 1, some("ops", "t")), api.ErrMany)
		w.commit()
	}
	if l := w.do("List", list(ann(), "ops")).Versions; len(l) != api.MaxRules {
		t.Errorf("List: %d rules", len(l))
	}
	w.unchanged("all", w.tx)
}

// P16.4: each version has who made it, and when, and the rule as it was then.
func TestUpdate(t *testing.T) {
	w := ops(t, 2)
	want := []api.Version{version(1, 1, "ann", 0, full("ops", "t1"))}
	for i, c := range []call{
		update(root(), 9, 1, 1, some("ops", "u")), update(ann(), 3, 1, 2, full("ops", "v")), update(ann(), 3, 1, 3, full("ops", "v")),
	} {
		w.wants("Update", c, api.OK)
		want = append(want, version(1, int64(i)+2, c.user.Name, c.at, c.rule))
		hasVersions(t, "Get", w.do("Get", get(ann(), "ops", 1)), want[i+1])
		hasVersions(t, "History", w.do("History", history(ann(), "ops", 1)), want...)
		hasVersions(t, "the other one", w.do("History", history(ann(), "ops", 2)), version(2, 1, "ann", 1, full("ops", "t2")))
	}
	hasFolder(t, "Folder", w.do("Folder", folderOf(ann(), "ops")), "ops", 3, toUser("ann", api.LevelEdit))
}

// P16.4: example 1: two that read a version and change it: the second is told.
func TestSomebodyChangedItInBetween(t *testing.T) {
	w := ops(t, 1)
	w.wants("the first", update(ann(), 1, 1, 1, some("ops", "u")), api.OK)
	w.wants("the second", update(root(), 1, 1, 1, some("ops", "v")), api.ErrVersion)
	w.wants("the second", remove(root(), 1, "ops", 1, 1), api.ErrVersion)
	w.wants("by the new one", remove(root(), 1, "ops", 1, 2), api.OK)
}

// P16.4: the number must be just that of the last version.
func TestNumbersOfOtherVersions(t *testing.T) {
	w := ops(t, 1)
	for last := int64(1); last < 5; last++ {
		for _, n := range []int64{last - 1, last + 1, 0, -1, -last, last + 256, last + 1<<32, math.MaxInt64, math.MinInt64} {
			w.wants("Update", update(ann(), 1, 1, n, some("ops", "u")), api.ErrVersion)
			w.wants("Update", update(ann(), 1, 1, n, some("ops", "")), api.ErrVersion)
			w.wants("Delete", remove(ann(), 1, "ops", 1, n), api.ErrVersion)
		}
		w.wants("Update", update(ann(), 1, 1, last, some("ops", "u")), api.OK)
	}
}

// P16.4, P16.5: Ids of which there never was a rule, in that folder.
func TestIdsOfNoRule(t *testing.T) {
	w := ops(t, 3)
	w.folder("more", toUser("ann", api.LevelEdit))
	for range 5 {
		w.wants("Create", create(ann(), 1, some("more", "t")), api.OK)
	}
	for _, id := range []int64{0, -1, -2, 4, 5, 6, 257, 1<<32 + 1, math.MaxInt64, math.MinInt64, math.MinInt64 + 1} {
		for _, n := range []int64{1, 0, -1} {
			w.wants("Update", update(ann(), 1, id, n, some("ops", "u")), api.ErrNone)
			w.wants("Update", update(ann(), 1, id, n, some("ops", "")), api.ErrNone)
			w.wants("Delete", remove(root(), 1, "ops", id, n), api.ErrNone)
		}
		w.wants("Get", get(ann(), "ops", id), api.ErrNone)
		w.wants("History", history(ann(), "ops", id), api.ErrNone)
	}
}

// P16.4: the last version of a rule that is deleted is the one ahead, but with
// the next number, who deleted it, and when.
func TestDelete(t *testing.T) {
	w := ops(t, 3)
	w.wants("Update", update(ann(), 4, 2, 1, some("ops", "u")), api.OK)
	w.wants("Delete", remove(root(), 9, "ops", 2, 2), api.OK)
	gone := version(2, 3, "root", 9, some("ops", "u"))
	gone.Deleted = true
	behind := func() {
		t.Helper()
		hasVersions(t, "History", w.do("History", history(ann(), "ops", 2)),
			version(2, 1, "ann", 1, full("ops", "t2")), version(2, 2, "ann", 4, some("ops", "u")), gone)
		w.wants("Get", get(ann(), "ops", 2), api.ErrNone)
		w.wants("Get", get(root(), "ops", 2), api.ErrNone)
		first, third := version(1, 1, "ann", 0, full("ops", "t1")), version(3, 1, "ann", 2, full("ops", "t3"))
		hasVersions(t, "List", w.do("List", list(ann(), "ops")), first, third)
		hasVersions(t, "All", w.do("All", all()), first, third)
		for n := int64(0); n < 5; n++ {
			w.wants("Update", update(ann(), 1, 2, n, some("ops", "v")), api.ErrNone)
			w.wants("Update", update(ann(), 1, 2, n, some("ops", "")), api.ErrNone)
			w.wants("Delete", remove(ann(), 1, "ops", 2, n), api.ErrNone)
		}
	}
	behind()
	w.commit()
	behind()
	hasFolder(t, "Folder", w.do("Folder", folderOf(ann(), "ops")), "ops", 4, toUser("ann", api.LevelEdit))
}

// P16.4: the version MaxVersions and one more, also one by which the rule would
// be deleted.
func TestAsManyVersionsAsThereMayBe(t *testing.T) {
	w := ops(t, 2)
	for n := int64(1); n < api.MaxVersions; n++ {
		w.wants("Update", update(ann(), n, 1, n, some("ops", "v"+strconv.FormatInt(n+1, 10))), api.OK)
	}
	for range 2 {
		w.wants("one more", update(ann(), 1, 1, api.MaxVersions, some("ops", "u")), api.ErrMany)
		w.wants("one more", remove(ann(), 1, "ops", 1, api.MaxVersions), api.ErrMany)
		w.wants("the number", update(ann(), 1, 1, api.MaxVersions-1, some("ops", "u")), api.ErrVersion)
		w.wants("the number", update(ann(), 1, 1, api.MaxVersions+1, some("ops", "u")), api.ErrVersion)
		w.wants("the rule", update(ann(), 1, 1, api.MaxVersions, some("ops", "")), api.ErrRule)
		w.wants("the number", remove(ann(), 1, "ops", 1, api.MaxVersions-1), api.ErrVersion)
		w.commit()
	}
	hasVersions(t, "Get", w.do("Get", get(ann(), "ops", 1)), version(1, api.MaxVersions, "ann", api.MaxVersions-1, some("ops", "v100")))
	w.wants("the other one", update(ann(), 1, 2, 1, some("ops", "u")), api.OK)
}

// P16.4: the last version that there may be may be one that is deleted.
func TestTheLastVersionIsDeleted(t *testing.T) {
	w := ops(t, 1)
	for n := int64(1); n < api.MaxVersions-1; n++ {
		w.wants("Update", update(ann(), n, 1, n, some("ops", "u")), api.OK)
	}
	w.wants("Delete", remove(ann(), 1, "ops", 1, api.MaxVersions-1), api.OK)
	w.wants("Get", get(ann(), "ops", 1), api.ErrNone)
	l := w.wants("History", history(ann(), "ops", 1), api.OK).Versions
	if len(l) != api.MaxVersions || !l[api.MaxVersions-1].Deleted || l[api.MaxVersions-2].Deleted {
		t.Errorf("History: %d versions, %s", len(l), brief(l[max(0, len(l)-2):]))
	}
	w.wants("behind it", update(ann(), 1, 1, api.MaxVersions, some("ops", "u")), api.ErrNone)
}
