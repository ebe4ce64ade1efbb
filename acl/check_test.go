package acl_test

import (
	"math"
	"slices"
	"strconv"
	"testing"

	"klaxon/acl"
	"klaxon/api"
)

// P15.1: from none to MaxGrants.
func TestGrantsByNumber(t *testing.T) {
	if err := acl.Check(); err != api.OK {
		t.Errorf("no grant: error %d", err)
	}
	for n := range api.MaxGrants + 1 {
		accepts(t, strconv.Itoa(n)+" grants", with(many(n)...))
	}
	for _, n := range []int{api.MaxGrants + 1, api.MaxGrants + 2, 2 * api.MaxGrants, 127, 128, 256 + api.MaxGrants, 1000} {
		refusesGrants(t, strconv.Itoa(n)+" grants", api.ErrMany, many(n)...)
	}
}

// P15.1: each of the three kinds, and no other.
func TestGrantsByKind(t *testing.T) {
	for _, kind := range []int{1, 2, 3} {
		accepts(t, "Kind "+strconv.Itoa(kind), with(api.Grant{Kind: kind, Name: "editor", Level: api.LevelView}))
	}
	for _, kind := range []int{0, 4, 5, 6, 7, -1, -2, -3, 1 << 8, 1<<8 + 1, 1<<32 + 1, 1<<32 + 3, math.MaxInt, math.MinInt, math.MinInt + 1} {
		refusesGrants(t, "Kind "+strconv.Itoa(kind), api.ErrGrant, api.Grant{Kind: kind, Name: "editor", Level: api.LevelView})
	}
	refusesGrants(t, "the zero Grant", api.ErrGrant, api.Grant{})
}

// P15.1: users and teams have a rule.Name, whichever it is.
func TestGrantsByName(t *testing.T) {
	for _, to := range []func(string, int) api.Grant{toUser, toTeam} {
		for _, s := range names() {
			accepts(t, "Name "+s, with(to(s, api.LevelView)))
		}
		for _, s := range noNames() {
			refusesGrants(t, "Name "+strconv.Quote(s[:min(len(s), 30)]), api.ErrGrant, to(s, api.LevelView))
		}
	}
}

// P15.1: roles are one of three, and no other rule.Name.
func TestGrantsByRole(t *testing.T) {
	for _, s := range []string{"viewer", "editor", "admin"} {
		accepts(t, "role "+s, with(toRole(s, api.LevelView)))
	}
	for _, s := range noRoles() {
		refusesGrants(t, "role "+strconv.Quote(s[:min(len(s), 30)]), api.ErrGrant, toRole(s, api.LevelView))
	}
}

// P15.1: from LevelView to LevelAdmin, of each kind.
func TestGrantsByLevel(t *testing.T) {
	for _, to := range []func(string, int) api.Grant{toUser, toTeam, toRole} {
		for _, level := range []int{api.LevelView, api.LevelEdit, api.LevelAdmin} {
			accepts(t, "Level "+strconv.Itoa(level), with(to("admin", level)))
		}
		for _, level := range []int{api.LevelNone, api.LevelAdmin + 1, 5, -1, -2, -3, 1<<8 + 1, 1<<32 + 1, math.MaxInt, math.MinInt} {
			refusesGrants(t, "Level "+strconv.Itoa(level), api.ErrGrant, to("admin", level))
		}
	}
}

// P15.1: two of one Kind and one Name, whatever their Levels, wherever they
// stand.
func TestGrantsOfOneName(t *testing.T) {
	for _, to := range []func(string, int) api.Grant{toUser, toTeam, toRole} {
		for one := api.LevelView; one <= api.LevelAdmin; one++ {
			for other := api.LevelView; other <= api.LevelAdmin; other++ {
				refusesGrants(t, "twice", api.ErrThere, to("viewer", one), to("viewer", other))
			}
		}
	}
	for n := 2; n <= api.MaxGrants; n++ {
		for at := range n {
			for from := range at {
				l := many(n)
				l[at].Kind, l[at].Name = l[from].Kind, l[from].Name
				refusesGrants(t, "twice of "+strconv.Itoa(n), api.ErrThere, l...)
			}
		}
	}
	refusesGrants(t, "all the same", api.ErrThere, slices.Repeat([]api.Grant{toRole("admin", 3)}, api.MaxGrants)...)
}

// P15.1: one Name of unlike Kinds, and one Kind with unlike Names, may be.
func TestGrantsOfUnlikeNames(t *testing.T) {
	for level := api.LevelView; level <= api.LevelAdmin; level++ {
		accepts(t, "one name, three kinds", with(toUser("admin", level), toTeam("admin", level), toRole("admin", level)))
		accepts(t, "all roles", with(toRole("admin", level), toRole("viewer", level), toRole("editor", level)))
		accepts(t, "names that begin alike", with(toUser("a", level), toUser("aa", level), toUser("a-", level), toUser("-a", level)))
		accepts(t, "names in turn", with(toUser("x", level), toTeam("y", level), toUser("y", level), toTeam("x", level)))
	}
}

// P15.1: the error that is named first counts, wherever it stands.
func TestGrantsTellTheFirstError(t *testing.T) {
	wrong := []api.Grant{
		{}, {Kind: 4, Name: "ann", Level: 1}, toUser("", 1), toTeam("A", 1), toRole("boss", 1), toUser("ann", 0), toTeam("ann", 4), toRole("admin", -1),
	}
	for _, g := range wrong {
		refusesGrants(t, "wrong", api.ErrGrant, g)
		refusesGrants(t, "wrong twice", api.ErrGrant, g, g)
		refusesGrants(t, "wrong behind two", api.ErrGrant, toUser("x", 1), toUser("x", 2), g)
		refusesGrants(t, "wrong ahead of two", api.ErrGrant, g, toUser("x", 1), toUser("x", 2))
		refusesGrants(t, "wrong between two", api.ErrGrant, toUser("x", 1), g, toUser("x", 2))
		for at := range api.MaxGrants {
			l := many(api.MaxGrants)
			l[at] = g
			refusesGrants(t, "wrong at "+strconv.Itoa(at), api.ErrGrant, l...)
		}
		for at := range api.MaxGrants + 1 {
			l := many(api.MaxGrants + 1)
			l[at] = g
			refusesGrants(t, "wrong of too many", api.ErrMany, l...)
		}
	}
	// Of one Kind and one Name, of which one's Level may not be.
	refusesGrants(t, "twice, and wrong", api.ErrGrant, toUser("x", 1), toUser("x", 0))
	refusesGrants(t, "twice, and wrong", api.ErrGrant, toUser("x", 4), toUser("x", 3))
	refusesGrants(t, "too many, twice", api.ErrMany, append(many(api.MaxGrants), toUser("n-0", 1))...)
	refusesGrants(t, "too many zero ones", api.ErrMany, make([]api.Grant, api.MaxGrants+1)...)
	refusesGrants(t, "zero ones", api.ErrGrant, make([]api.Grant, api.MaxGrants)...)
}
