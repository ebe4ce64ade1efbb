package acl_test

import (
	"math"
	"slices"
	"testing"

	"klaxon/acl"
	"klaxon/api"
)

// hasLevel asks for u's Level, and at each level whether u May.
func hasLevel(t *testing.T, what string, want int, u api.User, l ...api.Grant) {
	t.Helper()
	if got := acl.Level(u, l...); got != want {
		t.Errorf("%s: Level(%s, %s): %d, want %d", what, brief(u), brief(l), got, want)
	}
	for _, level := range []int{math.MinInt, -5, -2, -1, 0, 1, 2, 3, 4, 5, 8, math.MaxInt, want - 1, want, want + 1} {
		may := level <= want
		if acl.May(u, level, l...) != may {
			t.Errorf("%s: May(%s, %d, %s): %v", what, brief(u), level, brief(l), !may)
		}
	}
}

// P15.2: the chapter's example.
func TestLevelOfTheExample(t *testing.T) {
	u := api.User{Name: "ann", Role: "viewer"}
	hasLevel(t, "their own", api.LevelEdit, u, toUser("ann", api.LevelEdit))
	hasLevel(t, "a team's", api.LevelNone, u, toTeam("x", api.LevelAdmin))
	hasLevel(t, "both", api.LevelEdit, u, toUser("ann", api.LevelEdit), toTeam("x", api.LevelAdmin))
}

// P15.2: without a grant there is LevelNone, but for an admin.
func TestLevelWithoutGrants(t *testing.T) {
	for role, want := range map[string]int{"viewer": 0, "editor": 0, "admin": 3, "": 0, "boss": 0, "Admin": 0, "admin ": 0} {
		hasLevel(t, "without teams", want, api.User{Name: "ann", Role: role})
		hasLevel(t, "in teams", want, api.User{Name: "ann", Role: role, Teams: []string{"admin", "red"}})
		hasLevel(t, "named admin", want, api.User{Name: "admin", Role: role})
	}
	hasLevel(t, "the zero User", api.LevelNone, api.User{})
}

// P15.2: each kind of grant counts by itself, at each level.
func TestLevelByOneGrant(t *testing.T) {
	for level := api.LevelView; level <= api.LevelAdmin; level++ {
		hasLevel(t, "one's name", level, ann(), toUser("ann", level))
		hasLevel(t, "one's first team", level, ann(), toTeam("red", level))
		hasLevel(t, "one's last team", level, ann(), toTeam("blue", level))
		hasLevel(t, "one's role", level, ann(), toRole("viewer", level))
	}
	u := api.User{Name: "x", Role: "editor", Teams: texts(api.MaxTeams)}
	for _, s := range u.Teams {
		hasLevel(t, "each team", api.LevelEdit, u, toTeam(s, api.LevelEdit))
	}
	hasLevel(t, "an editor", api.LevelView, u, toRole("editor", api.LevelView))
}

// P15.2: what is another's does not count: another name, and the right name of
// another kind.
func TestLevelByGrantsOfOthers(t *testing.T) {
	others := []api.Grant{
		toUser("bob", 3), toUser("an", 3), toUser("anna", 3), toUser("red", 3), toUser("viewer", 3), toUser("", 3), toUser("Ann", 3),
		toTeam("green", 3), toTeam("re", 3), toTeam("reds", 3), toTeam("ann", 3), toTeam("viewer", 3), toTeam("", 3), toTeam("redblue", 3),
		toRole("editor", 3), toRole("admin", 3), toRole("ann", 3), toRole("red", 3), toRole("view", 3), toRole("", 3), toRole("Viewer", 3),
	}
	for _, g := range others {
		hasLevel(t, "another's", api.LevelNone, ann(), g)
		hasLevel(t, "another's, and one's own", api.LevelView, ann(), g, toUser("ann", api.LevelView))
	}
	hasLevel(t, "all others'", api.LevelNone, ann(), others...)
	hasLevel(t, "all others', and one's own", api.LevelEdit, ann(), append(others, toTeam("blue", api.LevelEdit))...)
}

// P15.2: of several the greatest counts, wherever it stands.
func TestLevelBySeveralGrants(t *testing.T) {
	for a := api.LevelView; a <= api.LevelAdmin; a++ {
		for b := api.LevelView; b <= api.LevelAdmin; b++ {
			for c := api.LevelView; c <= api.LevelAdmin; c++ {
				for d := api.LevelView; d <= api.LevelAdmin; d++ {
					l := []api.Grant{toUser("ann", a), toTeam("blue", b), toRole("viewer", c), toTeam("red", d), toUser("bob", api.LevelAdmin)}
					hasLevel(t, "several", max(a, b, c, d), ann(), l...)
				}
			}
		}
	}
	hasLevel(t, "twice", api.LevelEdit, ann(), toUser("ann", 2), toUser("ann", 1))
	hasLevel(t, "twice", api.LevelEdit, ann(), toUser("ann", 1), toUser("ann", 2))
}

// P15.2, P15.4: an admin has LevelAdmin, no less by lesser grants and no more by
// greater ones.
func TestLevelOfAnAdmin(t *testing.T) {
	u := api.User{Name: "ann", Role: "admin", Teams: []string{"red"}}
	for _, level := range []int{math.MinInt, -1, 0, 1, 2, 3, 4, 100, math.MaxInt} {
		hasLevel(t, "admin", api.LevelAdmin, u, toUser("ann", level))
		hasLevel(t, "admin", api.LevelAdmin, u, toTeam("red", level), toRole("admin", level), toRole("viewer", level), toUser("bob", level))
	}
	hasLevel(t, "an admin who may not be", api.LevelAdmin, api.User{Name: "A b", Role: "admin", Teams: append(texts(20), "")})
}

// P15.2: grants that Check refuses count as they stand.
func TestLevelByGrantsThatMayNotBe(t *testing.T) {
	for _, level := range []int{4, 5, 100, math.MaxInt} {
		hasLevel(t, "above LevelAdmin", level, ann(), toUser("ann", level))
		hasLevel(t, "above LevelAdmin", level, ann(), toUser("ann", 3), toTeam("red", level), toRole("viewer", 1))
		hasLevel(t, "above LevelAdmin, another's", 1, ann(), toUser("bob", level), toRole("viewer", 1))
	}
	hasLevel(t, "LevelNone", api.LevelNone, ann(), toUser("ann", api.LevelNone))
	hasLevel(t, "LevelNone beside another", api.LevelView, ann(), toUser("ann", api.LevelNone), toTeam("red", api.LevelView))
	for _, kind := range []int{0, 4, 5, 6, 7, -1, -2, -3, 1<<32 + 1, math.MaxInt, math.MinInt} {
		for _, s := range []string{"ann", "red", "viewer"} {
			hasLevel(t, "no kind", api.LevelNone, ann(), api.Grant{Kind: kind, Name: s, Level: 3})
			hasLevel(t, "no kind beside another", 1, ann(), api.Grant{Kind: kind, Name: s, Level: 3}, toTeam("blue", 1))
		}
	}
	// More than MaxGrants, and two of one Kind and one Name.
	hasLevel(t, "many", api.LevelEdit, ann(), append(many(1000), toTeam("red", api.LevelEdit))...)
	hasLevel(t, "many of one's own", api.LevelEdit, ann(), append(slices.Repeat([]api.Grant{toUser("ann", 1)}, 100), toUser("ann", 2))...)
}

// P15.4: below LevelNone a grant takes nothing away.
func TestLevelByGrantsBelowNone(t *testing.T) {
	for _, level := range []int{-1, -2, -100, math.MinInt} {
		hasLevel(t, "below LevelNone", api.LevelNone, ann(), toUser("ann", level))
		hasLevel(t, "all below LevelNone", api.LevelNone, ann(), toUser("ann", level), toTeam("red", level), toRole("viewer", level))
		hasLevel(t, "below LevelNone beside another", api.LevelView, ann(), toUser("ann", level), toTeam("red", api.LevelView))
		hasLevel(t, "below LevelNone, another's", api.LevelNone, ann(), toUser("bob", level))
	}
}

// P15.2: users whom User refuses have what grants give them, by the same words.
func TestLevelOfUsersThatMayNotBe(t *testing.T) {
	hasLevel(t, "no name", 2, api.User{Role: "viewer"}, toUser("", 2))
	hasLevel(t, "no role", 2, api.User{Name: "ann"}, toRole("", 2))
	hasLevel(t, "no role, another's", 0, api.User{Name: "ann"}, toRole("viewer", 2), toRole("ann", 2))
	hasLevel(t, "a team without a name", 2, api.User{Name: "ann", Role: "viewer", Teams: []string{""}}, toTeam("", 2))
	hasLevel(t, "no team", 0, api.User{Name: "ann", Role: "viewer"}, toTeam("", 2))
	hasLevel(t, "another role", 2, api.User{Name: "ann", Role: "boss"}, toRole("boss", 2))
	hasLevel(t, "another form", 1, api.User{Name: "Ann B", Role: "viewer"}, toUser("Ann B", 1))
	u := api.User{Name: "ann", Role: "viewer", Teams: texts(1000)}
	hasLevel(t, "many teams", 3, u, toTeam("t999", 3))
	hasLevel(t, "many teams, another's", 0, u, toTeam("t1000", 3))
	hasLevel(t, "one team twice", 1, api.User{Teams: []string{"a", "a"}}, toTeam("a", 1))
}
