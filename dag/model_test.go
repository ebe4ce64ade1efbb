package dag_test

import (
	"math/rand"
	"regexp"
	"slices"
	"testing"

	"klaxon/api"
	"klaxon/dag"
)

var (
	modelRef  = regexp.MustCompile(`^[A-Z][A-Za-z0-9_]{0,15}$`)
	modelName = regexp.MustCompile(`\$([A-Za-z0-9_]+)`)
	modelWay  = regexp.MustCompile(`^(last|min|max|sum|mean|count)$`)
)

// saidInputs is what P12.1 says, of texts that are either among noTrees or have
// a tree.
func saidInputs(n api.Node) []string {
	switch {
	case n.Kind == 2 || n.Kind == 4:
		return []string{n.Input}
	case n.Kind != 3 || slices.Contains(noTrees(), n.Text):
		return nil
	}
	var refs []string
	for _, found := range modelName.FindAllStringSubmatch(n.Text, -1) {
		refs = append(refs, found[1])
	}
	slices.Sort(refs)
	return slices.Compact(refs)
}

// saidBound is a value that may be a bound.
func saidBound(v api.Value) bool {
	return v.Kind == 1 && -maxNum <= v.N && v.N <= maxNum || (v.Kind == 4 || v.Kind == 5) && v.N == 0
}

// saidNode is what P12.2 says of one node. Fields that it has asked are set to
// zero, so that at last none may be left.
func saidNode(n api.Node) bool {
	ok := modelRef.MatchString(n.Ref)
	kind := n.Kind
	n.Ref, n.Kind = "", 0
	switch kind {
	case 1:
		ok = ok && n.Source != "" && len(n.Source) <= 64
		n.Source = ""
	case 2:
		ok = ok && modelWay.MatchString(n.How)
		n.Input, n.How, n.Strict = "", "", false
	case 3:
		ok = ok && !slices.Contains(noTrees(), n.Text)
		n.Text = ""
	case 4:
		ok = ok && slices.Contains(waysToBound(), n.How) && saidBound(n.Low)
		if n.How == "in" || n.How == "out" {
			ok = ok && saidBound(n.High)
			n.High = api.Value{}
		}
		n.Input, n.How, n.Low = "", "", api.Value{}
	default:
		return false
	}
	return ok && n == api.Node{}
}

// reach is which refs lead to which, on ways of one node or more.
func reach(l []api.Node) map[[2]string]bool {
	leads := map[[2]string]bool{}
	var refs []string
	for _, n := range l {
		if slices.Contains(refs, n.Ref) {
			continue
		}
		refs = append(refs, n.Ref)
		for _, input := range saidInputs(n) {
			leads[[2]string{n.Ref, input}] = true
		}
	}
	for _, over := range refs {
		for _, from := range refs {
			for _, to := range refs {
				if leads[[2]string{from, over}] && leads[[2]string{over, to}] {
					leads[[2]string{from, to}] = true
				}
			}
		}
	}
	return leads
}

// refsOf is the nodes' refs, rising, each once, and whether none stands twice.
func refsOf(l []api.Node) ([]string, bool) {
	var refs []string
	for _, n := range l {
		refs = append(refs, n.Ref)
	}
	slices.Sort(refs)
	refs = slices.Compact(refs)
	return refs, len(refs) == len(l)
}

// saidCheck is what P12.2 says.
func saidCheck(condition string, l []api.Node) api.Errno {
	if len(l) > 16 {
		return api.ErrMany
	}
	for _, n := range l {
		if !saidNode(n) {
			return api.ErrNode
		}
	}
	refs, once := refsOf(l)
	if !once {
		return api.ErrThere
	}
	if !slices.Contains(refs, condition) {
		return api.ErrNone
	}
	for _, n := range l {
		for _, input := range saidInputs(n) {
			if !slices.Contains(refs, input) {
				return api.ErrNone
			}
		}
	}
	leads := reach(l)
	for _, ref := range refs {
		if leads[[2]string{ref, ref}] {
			return api.ErrCycle
		}
	}
	return api.OK
}

// saidOrder is what P12.3 says, told otherwise: of all orders in which each ref
// stands behind what it hangs on the least one, ref by ref.
func saidOrder(l []api.Node) ([]string, api.Errno) {
	refs, once := refsOf(l)
	if !once {
		return nil, api.ErrThere
	}
	by := map[string]api.Node{}
	for _, n := range l {
		by[n.Ref] = n
	}
	// The permutations of a rising list come by rising order.
order:
	for _, order := range permutations(refs) {
		for i, ref := range order {
			for _, input := range saidInputs(by[ref]) {
				if !slices.Contains(order[:i], input) {
					continue order
				}
			}
		}
		return order, api.OK
	}
	return nil, api.ErrCycle
}

// saidNeeds is what P12.4 says.
func saidNeeds(ref string, l []api.Node) []string {
	leads := reach(l)
	refs, _ := refsOf(l)
	if !slices.Contains(refs, ref) {
		return nil
	}
	return slices.DeleteFunc(refs, func(other string) bool { return other != ref && !leads[[2]string{ref, other}] })
}

// anyName is a ref, and seldom none of a few.
func anyName(r *rand.Rand) string {
	if r.Intn(60) == 0 {
		return "Gone"
	}
	return []string{"A", "AA", "A_", "B", "C", "D"}[r.Intn(6)]
}

// anyRef is seldom no ref at all.
func anyRef(r *rand.Rand) string {
	if r.Intn(60) == 0 {
		return []string{"", "a"}[r.Intn(2)]
	}
	return anyName(r)
}

// anyNode is mostly one that may be.
func anyNode(r *rand.Rand, ref string) api.Node {
	n := query(ref)
	switch r.Intn(5) {
	case 0:
		n = reduce(ref, anyRef(r))
	case 1:
		n = threshold(ref, anyRef(r), waysToBound()[r.Intn(4)])
	case 2, 3:
		n = hangs(ref, []string{anyName(r), anyName(r)}[:r.Intn(3)]...)
	}
	switch r.Intn(100) {
	case 0:
		n.Text = noTrees()[r.Intn(len(noTrees()))]
	case 1:
		n.Kind = r.Intn(7) - 1
	case 2:
		n.Low = noValues()[r.Intn(len(noValues()))]
	case 3:
		n.High = []api.Value{{}, null, nan, plus, num(1)}[r.Intn(5)]
	case 4:
		n.How = append(append(waysToBound(), waysToReduce()...), "", "x")[r.Intn(12)]
	case 5:
		n.Strict = true
	case 6:
		n.Input = anyRef(r)
	case 7:
		n.Source = []string{"", "s"}[r.Intn(2)]
	}
	return n
}

// anyNodes is a few nodes, mostly each of a ref of its own.
func anyNodes(r *rand.Rand) []api.Node {
	refs := shuffled(r, []string{"A", "AA", "A_", "B", "C", "D"})[:r.Intn(7)]
	if len(refs) > 1 && r.Intn(6) == 0 {
		refs[0] = anyRef(r)
	}
	var l []api.Node
	for _, ref := range refs {
		l = append(l, anyNode(r, ref))
	}
	return l
}

// P12.1 to P12.4: against the document.
func TestAgainstTheDocument(t *testing.T) {
	r := rand.New(rand.NewSource(12))
	checked, ordered := map[api.Errno]int{}, map[api.Errno]int{}
	for range 10000 {
		l, ref := anyNodes(r), anyRef(r)
		for _, n := range l {
			if got, want := dag.Inputs(n), saidInputs(n); !slices.Equal(got, want) {
				t.Fatalf("Inputs of %+v: %q, want %q", n, got, want)
			}
		}
		err, want := dag.Check(ref, l...), saidCheck(ref, l)
		if err != want {
			t.Fatalf("Check %q of %s: %d, want %d", ref, brief(l), err, want)
		}
		checked[err]++
		order, err := dag.Order(l...)
		wantOrder, want := saidOrder(l)
		if err != want || !slices.Equal(order, wantOrder) || err != api.OK && order != nil {
			t.Fatalf("Order of %s: %q, error %d, want %q, %d", brief(l), order, err, wantOrder, want)
		}
		ordered[err]++
		if got, want := dag.Needs(ref, l...), saidNeeds(ref, l); !slices.Equal(got, want) {
			t.Fatalf("Needs %q of %s: %q, want %q", ref, brief(l), got, want)
		}
	}
	for _, err := range []api.Errno{api.OK, api.ErrNode, api.ErrThere, api.ErrNone, api.ErrCycle} {
		if checked[err] < 200 || err != api.ErrNode && err != api.ErrNone && ordered[err] < 200 {
			t.Errorf("few of error %d: %v, %v", err, checked, ordered)
		}
	}
}
