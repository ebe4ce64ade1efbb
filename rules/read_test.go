package rules_test

import (
	"slices"
	"strconv"
	"testing"

	"klaxon/api"
)

func ids(l []api.Version) []int64 {
	var n []int64
	for _, v := range l {
		n = append(n, v.Id)
	}
	return n
}

func numbers(l []api.Version) []int64 {
	var n []int64
	for _, v := range l {
		n = append(n, v.Number)
	}
	return n
}

// upTo is the numbers from 1 on.
func upTo(most int64) []int64 {
	var l []int64
	for n := int64(1); n <= most; n++ {
		l = append(l, n)
	}
	return l
}

func without(l []int64, n int64) []int64 {
	return slices.DeleteFunc(slices.Clone(l), func(x int64) bool { return x == n })
}

// P16.5: who may view may read the folder's rules, and no more.
func TestReadByWhoMayView(t *testing.T) {
	w := ops(t, 2)
	w.wants("SetGrants", setGrants(root(), "ops", toUser("bob", api.LevelView)), api.OK)
	want := version(2, 1, "ann", 1, full("ops", "t2"))
	hasVersions(t, "Get", w.do("Get", get(bob(), "ops", 2)), want)
	hasVersions(t, "History", w.do("History", history(bob(), "ops", 2)), want)
	hasVersions(t, "List", w.do("List", list(bob(), "ops")), version(1, 1, "ann", 0, full("ops", "t1")), want)
	w.wants("Update", update(bob(), 1, 2, 1, some("ops", "u")), api.ErrDenied)
	w.wants("Get", get(ann(), "ops", 2), api.ErrDenied)
}

// P16.5: the versions of a rule by rising Number, up to MaxVersions, each as it
// was made; behind each new one, also behind a Delete.
func TestHistory(t *testing.T) {
	w := ops(t, 12)
	for n := int64(1); n < api.MaxVersions; n++ {
		w.wants("Update", update(ann(), n, 10, n, full("ops", "v"+strconv.FormatInt(n+1, 10))), api.OK)
		if n%9 == 0 {
			w.commit()
		}
		l := w.do("History", history(ann(), "ops", 10)).Versions
		if !slices.Equal(numbers(l), upTo(n+1)) {
			t.Fatalf("History: numbers %d", numbers(l))
		}
	}
	for _, v := range w.do("History", history(ann(), "ops", 10)).Versions[1:] {
		if v.Rule.Title != "v"+strconv.FormatInt(v.Number, 10) || v.At != v.Number-1 || v.Id != 10 || v.Deleted {
			t.Errorf("version %d: %s", v.Number, brief(v))
		}
	}
	w.wants("Delete", remove(ann(), 1, "ops", 1, 1), api.OK)
	if l := w.do("History", history(ann(), "ops", 1)).Versions; len(l) != 2 || l[0].Deleted || !l[1].Deleted || l[1].Rule.Title != "t1" {
		t.Errorf("History behind a Delete: %s", brief(l))
	}
	if l := w.do("History", history(ann(), "ops", 11)).Versions; len(l) != 1 || l[0].Id != 11 {
		t.Errorf("History of another rule: %s", brief(l))
	}
}

// P16.5: rules by rising Id, beyond 9, and beyond what a byte takes; those that
// are deleted are left out.
func TestListByRisingId(t *testing.T) {
	w := ops(t, api.MaxRules)
	left := upTo(api.MaxRules)
	hasIds := func(what string) {
		t.Helper()
		if a := w.do("List", list(ann(), "ops")); !slices.Equal(ids(a.Versions), left) {
			t.Fatalf("%s: rules %d, want %d", what, ids(a.Versions), left)
		}
		if a := w.do("All", all()); !slices.Equal(ids(a.Versions), left) {
			t.Fatalf("%s: all rules %d, want %d", what, ids(a.Versions), left)
		}
	}
	hasIds("as they came")
	for next := int64(api.MaxRules + 1); next < 300; next++ {
		id := left[int(next)%len(left)]
		w.wants("Delete", remove(ann(), 1, "ops", id, 1), api.OK)
		left = without(left, id)
		hasIds("one less")
		if a := w.do("Create", create(ann(), next, some("ops", "t"))); a.Id != next {
			t.Fatalf("rule %d, want %d", a.Id, next)
		}
		left = append(left, next)
		hasIds("one more")
		if next%50 == 0 {
			w.commit()
		}
	}
	for len(left) > 0 {
		w.wants("Delete", remove(ann(), 1, "ops", left[0], 1), api.OK)
		left = left[1:]
		hasIds("ever less")
	}
	w.unchanged("no rule is left", w.tx)
}

// P16.5: an update puts a rule nowhere else in the list, and tells its last
// version alone.
func TestListTellsTheLastVersions(t *testing.T) {
	w := ops(t, 3)
	w.wants("Update", update(ann(), 5, 1, 1, some("ops", "u")), api.OK)
	w.wants("Update", update(root(), 6, 1, 2, some("ops", "v")), api.OK)
	w.wants("Update", update(root(), 7, 3, 1, some("ops", "w")), api.OK)
	want := []api.Version{version(1, 3, "root", 6, some("ops", "v")), version(2, 1, "ann", 1, full("ops", "t2")), version(3, 2, "root", 7, some("ops", "w"))}
	hasVersions(t, "List", w.do("List", list(ann(), "ops")), want...)
	hasVersions(t, "All", w.do("All", all()), want...)
}

// P16.5, P16.6: folders one of whose names begins another's: no rule of the one
// is one of the other; all of them by rising folders, then by rising Ids.
func TestFoldersThatBeginAlike(t *testing.T) {
	w := fresh(t)
	hasVersions(t, "All of no folder", w.do("All", all()))
	names := []string{"b", "ab", "a", "a-", "a0", "aa", "abcdefgh", "abcdefg", "abcdefghi", "abcdefgh-", "0", "-"}
	for i, name := range names {
		w.folder(name, toUser("ann", api.LevelEdit))
		hasVersions(t, "List of a new folder", w.do("List", list(ann(), name)))
		for n := range i + 2 {
			w.wants("Create", create(ann(), int64(n), some(name, name)), api.OK)
		}
	}
	w.wants("Delete", remove(ann(), 1, "ab", 2, 1), api.OK)
	w.wants("Update", update(ann(), 1, 3, 1, some("ab", "u")), api.OK)
	w.commit()
	w.folder("empty")

	var want []api.Version
	slices.Sort(names)
	for _, name := range names {
		l := w.do("List", list(ann(), name)).Versions
		if slices.ContainsFunc(l, func(v api.Version) bool { return v.Rule.Folder != name }) {
			t.Errorf("List of %s: %s", name, brief(l))
		}
		want = append(want, l...)
		for _, v := range l {
			hasVersions(t, "Get", w.do("Get", get(ann(), name, v.Id)), v)
		}
	}
	hasVersions(t, "All", w.do("All", all()), want...)
	hasVersions(t, "All in a View", all().do(w.view()), want...)
}

// P16.6: as many rules as there may be.
func TestAllOfAsManyAsThereMayBe(t *testing.T) {
	w := fresh(t)
	for i := range api.MaxFolders {
		name := "f" + strconv.Itoa(i)
		w.folder(name)
		for n := range api.MaxRules {
			w.do("Create", create(root(), int64(n), some(name, "t")))
		}
		w.commit()
	}
	if l := w.do("All", all()).Versions; len(l) != api.MaxFolders*api.MaxRules {
		t.Errorf("All: %d rules", len(l))
	}
	w.wants("Delete", remove(root(), 1, "f15", 20, 1), api.OK)
	w.wants("Delete", remove(root(), 1, "f0", 1, 1), api.OK)
	if l := w.do("All", all()).Versions; len(l) != api.MaxFolders*api.MaxRules-2 {
		t.Errorf("All: %d rules", len(l))
	}
	w.unchanged("all", w.tx)
}
