package rule_test

import (
	"bytes"
	"reflect"
	"slices"
	"testing"

	"klaxon/api"
	"klaxon/rule"
)

// roomy is the list with spare room behind it, in which x stands.
func roomy[T any](x T, l ...T) []T {
	return append(slices.Clone(l), x, x)[:len(l)]
}

// whole is the list with its spare room.
func whole[T any](l []T) []T { return l[:cap(l)] }

// roomyVersion is a version in which each list has spare room.
func roomyVersion(v api.Version) api.Version {
	v.Rule.Labels = roomy(api.Label{Name: "spare", Value: "spare"}, v.Rule.Labels...)
	v.Rule.Nodes = roomy(query("Spare"), v.Rule.Nodes...)
	return v
}

// deep is a version with the spare room of its lists, as a copy that shares
// nothing.
func deep(v api.Version) api.Version {
	v.Rule.Labels = slices.Clone(whole(v.Rule.Labels))
	v.Rule.Nodes = slices.Clone(whole(v.Rule.Nodes))
	return v
}

func scribble(b []byte) {
	for i := range whole(b) {
		whole(b)[i] ^= 0xa5
	}
}

func scribbleRule(r api.Rule) {
	for i := range whole(r.Labels) {
		whole(r.Labels)[i] = api.Label{Name: "scribble", Value: "scribble"}
	}
	for i := range whole(r.Nodes) {
		whole(r.Nodes)[i] = query("Scribble")
	}
}

// turned has the labels the other way round, and so is ErrRule.
func turned(v api.Version) api.Version {
	v.Rule.Labels = slices.Clone(v.Rule.Labels)
	slices.Reverse(v.Rule.Labels)
	return v
}

// P14.2 to P14.4: rules and versions that are handed in are not changed, those
// that are refused neither, and bytes that are answered are new.
func TestPutChangesAndSharesNothing(t *testing.T) {
	for _, v := range []api.Version{someVersion(), fullVersion(), turned(fullVersion()), version(ofSize(t, api.MaxRule)), version(ofSize(t, api.MaxRule+1)), {}} {
		v = roomyVersion(v)
		ahead := deep(v)
		unchanged := func(what string) {
			t.Helper()
			if !reflect.DeepEqual(deep(v), ahead) {
				t.Fatalf("%s changed what was handed in: %s, was %s", what, brief(deep(v)), brief(ahead))
			}
		}
		rule.Check(v.Rule)
		unchanged("Check")
		first, _ := rule.Put(v.Rule)
		unchanged("Put")
		firstVersion, _ := rule.PutVersion(v)
		unchanged("PutVersion")

		again, err := rule.Put(v.Rule)
		versionAgain, _ := rule.PutVersion(v)
		if !bytes.Equal(first, again) || !bytes.Equal(firstVersion, versionAgain) {
			t.Fatalf("unlike the second time: %q, %q", first, again)
		}
		scribble(first)
		scribble(firstVersion)
		unchanged("what was made of an answer")
		if err == api.OK && (string(again) != saidRule(v.Rule) || string(versionAgain) != saidVersion(v)) {
			t.Fatalf("two answers share something: %q", again)
		}
	}
}

// P14.3, P14.4: bytes that are handed in are not changed and not kept, and rules
// that are answered are new.
func TestGetChangesAndSharesNothing(t *testing.T) {
	v := fullVersion()
	v.Rule.Labels, v.Rule.Title = wide(api.MaxLabels-3), "t"
	for _, cut := range []int{0, 1, 20} {
		ofRule, ofVersion := saidRule(v.Rule), saidVersion(v)
		b := roomy(0xee, []byte(ofRule[:len(ofRule)-cut])...)
		bv := roomy(0xee, []byte(ofVersion[:len(ofVersion)-cut])...)
		ahead, versionAhead := slices.Clone(whole(b)), slices.Clone(whole(bv))

		first, err := rule.Get(b)
		again, _ := rule.Get(b)
		firstVersion, _ := rule.GetVersion(bv)
		versionAgain, _ := rule.GetVersion(bv)
		if !bytes.Equal(whole(b), ahead) || !bytes.Equal(whole(bv), versionAhead) {
			t.Fatalf("changed what was handed in: %q, %q", whole(b), whole(bv))
		}
		if !reflect.DeepEqual(first, again) || !reflect.DeepEqual(firstVersion, versionAgain) {
			t.Fatalf("unlike the second time: %s, %s", brief(first), brief(again))
		}
		scribble(b)
		scribble(bv)
		scribbleRule(first)
		scribbleRule(firstVersion.Rule)
		if cut == 0 && (err != api.OK || !same(again, v.Rule) || !sameVersion(versionAgain, v)) {
			t.Fatalf("something is shared: %s", brief(again))
		}
	}
}

// P14.2: nil and an empty list are the same.
func TestNilAndEmpty(t *testing.T) {
	r := some()
	for _, l := range [][]api.Label{nil, {}, make([]api.Label, 0, 4)} {
		r.Labels = l
		accepts(t, "no labels", r)
	}
	for _, l := range [][]api.Node{nil, {}, make([]api.Node, 0, 4)} {
		r.Nodes = l
		refuses(t, "no nodes", api.ErrNone, r)
	}
	for _, b := range [][]byte{nil, {}, make([]byte, 0, 4)} {
		if got, err := rule.Get(b); err != api.ErrRule || !reflect.DeepEqual(got, api.Rule{}) {
			t.Errorf("Get of no bytes: %+v, error %d", got, err)
		}
	}
}
