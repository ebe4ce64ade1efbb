package rule_test

import (
	"math/rand"
	"reflect"
	"slices"
	"strconv"
	"strings"
	"testing"

	"klaxon/api"
	"klaxon/rule"
)

func oneOf[T any](r *rand.Rand, l ...T) T { return l[r.Intn(len(l))] }

// anyBytes is up to so many bytes, of all there are.
func anyBytes(r *rand.Rand, most int) string {
	p := make([]byte, r.Intn(most+1))
	r.Read(p)
	return string(p)
}

// anyName is mostly a name.
func anyName(r *rand.Rand) string {
	if r.Intn(60) == 0 {
		return oneOf(r, noNames()...)
	}
	p := make([]byte, 1+r.Intn(api.MaxFolder))
	for i := range p {
		p[i] = "abyz0189-"[r.Intn(9)]
	}
	return string(p)
}

// anyInt is mostly from least to most, and often one of these.
func anyInt(r *rand.Rand, least, most int64) int64 {
	switch r.Intn(60) {
	case 0:
		return least - 1
	case 1:
		return most + 1
	case 2:
		return int64(r.Uint64())
	}
	return oneOf(r, least, most, least+r.Int63n(most-least+1), least+r.Int63n(most-least+1))
}

// anyLabels is mostly a set.
func anyLabels(r *rand.Rand) []api.Label {
	if r.Intn(40) == 0 {
		return oneOf(r, noSets()...)
	}
	l := wide(r.Intn(api.MaxLabels + 1))
	for i := range l {
		l[i].Value = "v" + anyBytes(r, oneOf(r, 3, api.MaxLabel-1))
	}
	return l
}

// anyNodes is nodes of which each hangs on one ahead of it, mixed. Some have so
// many long expressions that the rule is near as long as it may be.
func anyNodes(r *rand.Rand) []api.Node {
	l := []api.Node{query("A0")}
	blanks := oneOf(r, 1, 10, 1000)
	for i := range r.Intn(api.MaxNodes) {
		ref, input := "A"+strconv.Itoa(i+1), l[r.Intn(len(l))].Ref
		kind := api.NodeQuery + r.Intn(4)
		if blanks == 1000 && r.Intn(4) > 0 {
			kind = api.NodeMath
		}
		switch kind {
		case api.NodeQuery:
			l = append(l, api.Node{Ref: ref, Kind: api.NodeQuery, Source: "s" + anyBytes(r, api.MaxSource-1)})
		case api.NodeReduce:
			l = append(l, api.Node{Ref: ref, Kind: api.NodeReduce, Input: input, How: oneOf(r, "last", "sum", "count"), Strict: r.Intn(2) == 0})
		case api.NodeMath:
			l = append(l, expr(ref, "$"+input+strings.Repeat(" ", r.Intn(blanks))))
		default:
			l = append(l, api.Node{Ref: ref, Kind: api.NodeThreshold, Input: input, How: "in", Low: num(r.Int63n(1 << 40)), High: num(-r.Int63n(1 << 40))})
		}
	}
	r.Shuffle(len(l), func(i, j int) { l[i], l[j] = l[j], l[i] })
	return l
}

// anyRule may mostly be.
func anyRule(r *rand.Rand) api.Rule {
	x := api.Rule{
		Folder: anyName(r), Group: anyName(r), Title: "t" + anyBytes(r, api.MaxTitle-1),
		Interval: anyInt(r, 1, api.MaxInterval), For: anyInt(r, 0, api.MaxHold), Keep: anyInt(r, 0, api.MaxHold),
		NoData: int(anyInt(r, 1, 4)), OnError: int(anyInt(r, 1, 4)),
		Labels: anyLabels(r), Nodes: anyNodes(r), Paused: r.Intn(2) == 0,
	}
	x.Offset = anyInt(r, 0, max(1, min(x.Interval, api.MaxInterval))-1)
	x.Condition = x.Nodes[r.Intn(len(x.Nodes))].Ref
	if r.Intn(20) == 0 {
		nodeFaults()[r.Intn(len(nodeFaults()))].do(&x)
	}
	return x
}

func anyVersion(r *rand.Rand) api.Version {
	return api.Version{
		Id: anyInt(r, 1, 1<<50), Number: anyInt(r, 1, api.MaxVersions), By: anyName(r), At: anyInt(r, 0, maxTime),
		Deleted: r.Intn(2) == 0, Rule: anyRule(r),
	}
}

// goesAsSaid asks of any rule, and of any version of it, for just what the
// document says.
func goesAsSaid(t *testing.T, v api.Version) api.Errno {
	t.Helper()
	want := saidCheck(v.Rule)
	if want == api.OK {
		accepts(t, "any rule", v.Rule)
	} else {
		refuses(t, "any rule", want, v.Rule)
	}
	if want := saidCheckVersion(v); want == api.OK {
		acceptsVersion(t, "any version", v)
	} else {
		refusesVersion(t, "any version", want, v)
	}
	return want
}

// P14.5, P14.2: Get of Put is the rule, whatever it is.
func TestThereAndBack(t *testing.T) {
	r := rand.New(rand.NewSource(1))
	seen := map[api.Errno]int{}
	for range 4000 {
		seen[goesAsSaid(t, anyVersion(r))]++
		if t.Failed() {
			return
		}
	}
	for _, err := range []api.Errno{api.OK, api.ErrRule, api.ErrLong, api.ErrMany, api.ErrNode, api.ErrThere, api.ErrNone, api.ErrCycle} {
		if seen[err] == 0 {
			t.Errorf("no rule has the error %d", err)
		}
	}
	if seen[api.OK] < 1000 {
		t.Errorf("only %d rules may be", seen[api.OK])
	}
}

// readsAsSaid asks that b is read as the document says; and if it is a rule, that
// it is the bytes of it. It tells whether it is one.
func readsAsSaid(t *testing.T, b string) bool {
	t.Helper()
	want, is := saidGet(b)
	got, err := rule.Get([]byte(b))
	if !is {
		if err != api.ErrRule || !reflect.DeepEqual(got, api.Rule{}) {
			t.Fatalf("Get(%q): %s, error %d, want none", b, brief(got), err)
		}
		return false
	}
	if err != api.OK || !same(got, want) {
		t.Fatalf("Get(%q): %s, error %d, want %s", b, brief(got), err, brief(want))
	}
	if again, err := rule.Put(got); err != api.OK || string(again) != b {
		t.Fatalf("Put of what %q is: %q, error %d", b, again, err)
	}
	return true
}

func readsVersionAsSaid(t *testing.T, b string) bool {
	t.Helper()
	want, is := saidGetVersion(b)
	got, err := rule.GetVersion([]byte(b))
	if !is {
		if err != api.ErrRule || !reflect.DeepEqual(got, api.Version{}) {
			t.Fatalf("GetVersion(%q): %s, error %d, want none", b, brief(got), err)
		}
		return false
	}
	if err != api.OK || !sameVersion(got, want) {
		t.Fatalf("GetVersion(%q): %s, error %d, want %s", b, brief(got), err, brief(want))
	}
	if again, err := rule.PutVersion(got); err != api.OK || string(again) != b {
		t.Fatalf("PutVersion of what %q is: %q, error %d", b, again, err)
	}
	return true
}

// eachChange calls do with b in which one byte is another one, is gone, or is
// there once more, at each place.
func eachChange(b string, do func(changed string)) {
	for at := range len(b) {
		do(b[:at] + b[at+1:])
		do(b[:at] + b[at:at+1] + b[at:])
		for c := range 256 {
			do(b[:at] + string([]byte{byte(c)}) + b[at+1:])
		}
	}
}

// P14.5: every bytes that are a rule are the bytes of it, however near they are
// to those of another one.
func TestEachByteOfARule(t *testing.T) {
	for _, r := range []api.Rule{some(), full()} {
		rules, versions := 0, 0
		eachChange(saidRule(r), func(changed string) {
			if readsAsSaid(t, changed) {
				rules++
			}
		})
		eachChange(saidVersion(version(r)), func(changed string) {
			if readsVersionAsSaid(t, changed) {
				versions++
			}
		})
		if rules < 500 || versions < 700 {
			t.Errorf("only %d rules, %d versions", rules, versions)
		}
	}
}

// P14.5: pieces in place of others, and bytes changed anywhere.
func TestAnyBytes(t *testing.T) {
	r := rand.New(rand.NewSource(2))
	rules, versions := 0, 0
	for range 6000 {
		v := anyVersion(r)
		if readsAsSaid(t, anyChange(r, rulePieces(v.Rule))) {
			rules++
		}
		if readsVersionAsSaid(t, anyChange(r, versionPieces(v))) {
			versions++
		}
		readsAsSaid(t, anyBytes(r, 60))
		readsVersionAsSaid(t, anyBytes(r, 60))
	}
	if rules < 500 || versions < 500 {
		t.Errorf("only %d rules, %d versions", rules, versions)
	}
}

// anyChange is the bytes of these pieces, of which some are others.
func anyChange(r *rand.Rand, all []piece) string {
	all = slices.Clone(all)
	for range r.Intn(3) {
		at, from := r.Intn(len(all)), r.Intn(len(all))
		switch r.Intn(6) {
		case 0:
			all[at].bytes = all[from].bytes
		case 1:
			all[at], all[from] = all[from], all[at]
		case 2:
			all[at].bytes = saidText(anyBytes(r, 5))
		case 3:
			all[at].bytes = saidSigned(anyInt(r, -2, 6))
		case 4:
			all[at].bytes = saidNumber(uint64(anyInt(r, 0, 20)))
		default:
			all[at].bytes += anyBytes(r, 2)
		}
	}
	return joined(all)
}
