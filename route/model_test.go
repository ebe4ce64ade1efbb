package route_test

import (
	"errors"
	"math/big"
	"math/rand"
	"regexp"
	"slices"
	"strconv"
	"strings"
	"testing"

	"klaxon/api"
	"klaxon/route"
)

// What the document says, read a second time, without the layers below.

var (
	modelName     = regexp.MustCompile(`^[A-Za-z_][A-Za-z0-9_]{0,63}$`)
	modelReceiver = regexp.MustCompile(`^[a-z0-9-]{1,24}$`)
)

// row is a route in the list of all, and the place of the one that it is a Kid of.
type row struct {
	api.Route
	above int
}

// saidRows is all routes by their numbers.
func saidRows(r api.Route) []row {
	return saidRowsBelow(nil, r, -1)
}

func saidRowsBelow(l []row, r api.Route, above int) []row {
	here := len(l)
	l = append(l, row{r, above})
	for _, kid := range r.Kids {
		l = saidRowsBelow(l, kid, here)
	}
	return l
}

// saidCheck is P20.1.
func saidCheck(r api.Route) api.Errno {
	l := saidRows(r)
	if len(l) > 32 {
		return api.ErrMany
	}
	ok := len(r.Matchers) == 0 && !r.Continue
	for _, x := range l {
		ok = ok && saidMayBe(x.Route)
	}
	if !ok {
		return api.ErrRoute
	}
	return api.OK
}

func saidMayBe(r api.Route) bool {
	ok := len(r.Matchers) <= 16 && len(r.GroupBy) <= 16 && modelReceiver.MatchString(r.Receiver)
	for _, m := range r.Matchers {
		ok = ok && modelName.MatchString(m.Name) && slices.Contains([]string{"=", "!=", "^=", "!^"}, m.Op) && len(m.Value) <= 128
	}
	names := map[string]bool{}
	for _, name := range r.GroupBy {
		ok = ok && modelName.MatchString(name) && !names[name]
		names[name] = true
	}
	return ok && 0 <= r.Wait && r.Wait <= 100000 && 0 <= r.Interval && r.Interval <= 100000 && 0 < r.Repeat && r.Repeat <= 100000
}

// saidMatch is P9.7.
func saidMatch(l []api.Label, ms []api.Matcher) bool {
	for _, m := range ms {
		v := ""
		for _, x := range l {
			if x.Name == m.Name {
				v = x.Value
			}
		}
		if !map[string]bool{"=": v == m.Value, "!=": v != m.Value, "^=": strings.HasPrefix(v, m.Value), "!^": !strings.HasPrefix(v, m.Value)}[m.Op] {
			return false
		}
	}
	return true
}

// saidFind is P20.2: of each route, by its number, whether the alert comes to it,
// which hangs on those ahead of it alone.
func saidFind(r api.Route, l []api.Label) []api.Target {
	rows := saidRows(r)
	comes, isEnd := make([]bool, len(rows)), make([]bool, len(rows))
	for n, x := range rows {
		comes[n] = n == 0 || comes[x.above] && saidMatch(l, x.Matchers)
		for m := range n {
			if rows[m].above == x.above && comes[m] && !rows[m].Continue {
				comes[n] = false
			}
		}
		isEnd[n] = comes[n]
		if comes[n] && n > 0 {
			isEnd[x.above] = false
		}
	}
	var found []api.Target
	for n, x := range rows {
		if isEnd[n] {
			found = append(found, targetOf(n, x.Route, l))
		}
	}
	return found
}

// The bytes, without quill, as pieces, each of which a test may put another one
// in place of.

type piece struct {
	name  string
	kind  int
	bytes string
}

const (
	number = iota // of matchers, of names, of Kids
	signed
	text
	truth
)

func saidNumber(n uint64) string {
	s := string([]byte{byte(n % 128)})
	for n /= 128; n > 0; n /= 128 {
		s = string([]byte{byte(128 + n%128)}) + s
	}
	return s
}

func saidSigned(n int64) string {
	if n < 0 {
		return "-" + saidNumber(uint64(-(n+1))+1)
	}
	return "+" + saidNumber(uint64(n))
}

func saidText(s string) string { return saidNumber(uint64(len(s))) + s }

func saidTruth(x bool) string {
	if x {
		return "\x01"
	}
	return "\x00"
}

// pieces is P20.3.
func pieces(r api.Route) []piece {
	all := []piece{{"Matchers", number, saidNumber(uint64(len(r.Matchers)))}}
	for _, m := range r.Matchers {
		all = append(all, piece{"a matcher's Name", text, saidText(m.Name)}, piece{"a matcher's Op", text, saidText(m.Op)}, piece{"a matcher's Value", text, saidText(m.Value)})
	}
	all = append(all, piece{"Receiver", text, saidText(r.Receiver)}, piece{"GroupBy", number, saidNumber(uint64(len(r.GroupBy)))})
	for _, name := range r.GroupBy {
		all = append(all, piece{"a name", text, saidText(name)})
	}
	all = append(all,
		piece{"Wait", signed, saidSigned(r.Wait)},
		piece{"Interval", signed, saidSigned(r.Interval)},
		piece{"Repeat", signed, saidSigned(r.Repeat)},
		piece{"Continue", truth, saidTruth(r.Continue)},
		piece{"Kids", number, saidNumber(uint64(len(r.Kids)))})
	for _, kid := range r.Kids {
		all = append(all, pieces(kid)...)
	}
	return all
}

func joined(all []piece) string {
	var b strings.Builder
	for _, p := range all {
		b.WriteString(p.bytes)
	}
	return b.String()
}

func saidTree(r api.Route) string { return joined(pieces(r)) }

// tape is bytes that are read by the document's words; what cannot be read is a
// panic, which saidGet takes for its answer.
type tape struct{ left string }

var errTape = errors.New("no bytes of a tree")

func (p *tape) must(ok bool) {
	if !ok {
		panic(errTape)
	}
}

func (p *tape) cut(n int) string {
	p.must(n <= len(p.left))
	head := p.left[:n]
	p.left = p.left[n:]
	return head
}

func (p *tape) big() *big.Int {
	n := new(big.Int)
	for i := 0; ; i++ {
		c := p.cut(1)[0]
		p.must(i > 0 || c != 128)
		n.Add(n.Lsh(n, 7), big.NewInt(int64(c%128)))
		if c < 128 {
			return n
		}
	}
}

// count is as far as there may be so many at all, each of which takes a byte.
func (p *tape) count() int {
	n := p.big()
	p.must(n.Cmp(big.NewInt(int64(len(p.left)))) <= 0)
	return int(n.Int64())
}

func (p *tape) signed() int64 {
	sign, n := p.cut(1), p.big()
	p.must(sign == "+" || sign == "-" && n.Sign() > 0)
	if sign == "-" {
		n.Neg(n)
	}
	p.must(n.IsInt64())
	return n.Int64()
}

func (p *tape) text() string { return p.cut(p.count()) }

func (p *tape) truth() bool {
	s := p.cut(1)
	p.must(s == "\x00" || s == "\x01")
	return s == "\x01"
}

func (p *tape) route() api.Route {
	var r api.Route
	for range p.count() {
		var m api.Matcher
		for _, to := range []*string{&m.Name, &m.Op, &m.Value} {
			*to = p.text()
		}
		r.Matchers = append(r.Matchers, m)
	}
	r.Receiver = p.text()
	for range p.count() {
		r.GroupBy = append(r.GroupBy, p.text())
	}
	for _, to := range []*int64{&r.Wait, &r.Interval, &r.Repeat} {
		*to = p.signed()
	}
	r.Continue = p.truth()
	for range p.count() {
		r.Kids = append(r.Kids, p.route())
	}
	return r
}

// saidGet is the tree whose bytes s is, and whether there is one.
func saidGet(s string) (r api.Route, ok bool) {
	defer func() {
		if x := recover(); x != nil {
			if x != errTape {
				panic(x)
			}
			r, ok = api.Route{}, false
		}
	}()
	p := &tape{left: s}
	r = p.route()
	p.must(p.left == "" && saidCheck(r) == api.OK)
	return r, true
}

func oneOf[T any](r *rand.Rand, l ...T) T { return l[r.Intn(len(l))] }

func anyMatchers(r *rand.Rand) []api.Matcher {
	var l []api.Matcher
	for range oneOf(r, 0, 1, 1, 1, 2, 3) {
		l = append(l, api.Matcher{
			Name:  oneOf(r, "a", "b", "ab"),
			Op:    oneOf(r, "=", "=", "!=", "^=", "!^"),
			Value: oneOf(r, "", "1", "1", "2", "10", "\xff"),
		})
	}
	return l
}

// anyRoute is one without Kids that may stand in a tree.
func anyRoute(r *rand.Rand) api.Route {
	time := func(least int64) int64 { return oneOf(r, least, api.MaxWait, least+r.Int63n(api.MaxWait-least)) }
	x := api.Route{Matchers: anyMatchers(r), Receiver: "r" + strconv.Itoa(r.Intn(9)), Wait: time(0), Interval: time(0), Repeat: time(1), Continue: r.Intn(3) == 0}
	names := []string{"a", "b", "ab", "A", "_1"}
	for _, i := range r.Perm(len(names))[:r.Intn(4)] {
		x.GroupBy = append(x.GroupBy, names[i])
	}
	return x
}

// anyTree is one of so many routes, each of which hangs on any other one.
func anyTree(r *rand.Rand, number int) api.Route {
	tree := anyRoute(r)
	tree.Matchers, tree.Continue = nil, false
	for range number - 1 {
		x := oneOf(r, flat(&tree)...)
		x.Kids = slices.Insert(x.Kids, r.Intn(len(x.Kids)+1), anyRoute(r))
	}
	return tree
}

func anyNumber(r *rand.Rand) int {
	return oneOf(r, 1, 2, 3, 4, 5, 8, 12, 20, api.MaxRoutes-1, api.MaxRoutes)
}

// anyLabels is a set of few names and values.
func anyLabels(r *rand.Rand) []api.Label {
	var l []api.Label
	for _, name := range []string{"A", "a", "ab", "b"} {
		if r.Intn(3) > 0 {
			l = append(l, api.Label{Name: name, Value: oneOf(r, "1", "1", "2", "10", "\xff")})
		}
	}
	return l
}

// P20.2: against the second reading.
func TestFindAgainstASecondReading(t *testing.T) {
	r := rand.New(rand.NewSource(201))
	found, routes := map[int]int{}, map[int]int{}
	for range 6000 {
		tree := anyTree(r, anyNumber(r))
		for range 5 {
			l := anyLabels(r)
			got, want := route.Find(tree, l), saidFind(tree, l)
			if !sameTargets(got, want) {
				t.Fatalf("%s: Find of %v:\n%s, want\n%s", brief(tree), l, brief(got), brief(want))
			}
			found[len(got)]++
			for _, x := range got {
				routes[x.Route]++
			}
		}
	}
	if found[0] > 0 || found[1] < 1000 || found[2] < 1000 || found[3] < 500 || found[4] < 100 {
		t.Errorf("so many targets: %v", found)
	}
	for number := range api.MaxRoutes {
		if routes[number] < 20 {
			t.Errorf("%d times route %d", routes[number], number)
		}
	}
}

// anySpoilt is the tree with some fault, or with none.
func anySpoilt(r *rand.Rand, tree api.Route, all []fault) api.Route {
	tree = clone(tree)
	switch x := oneOf(r, flat(&tree)...); r.Intn(5) {
	case 0:
		for range r.Intn(30) {
			x.Kids = append(x.Kids, to("more"))
		}
	case 1:
		x.Continue = true
	case 2:
		x.Matchers = anyMatchers(r)
	default:
		oneOf(r, all...).do(x)
	}
	return tree
}

// P20.1, P20.3: against the second reading.
func TestCheckAndPutAgainstASecondReading(t *testing.T) {
	r := rand.New(rand.NewSource(202))
	all := faults()
	seen := map[api.Errno]int{}
	for range 4000 {
		tree := anyTree(r, anyNumber(r))
		for range oneOf(r, 0, 1, 1, 2) {
			tree = anySpoilt(r, tree, all)
		}
		err := saidCheck(tree)
		if err == api.OK {
			accepts(t, "any", tree)
		} else {
			refuses(t, "any", err, tree)
		}
		seen[err]++
	}
	if seen[api.OK] < 500 || seen[api.ErrMany] < 200 || seen[api.ErrRoute] < 500 {
		t.Errorf("%v", seen)
	}
}

// P20.3: of bytes that were a tree's, but for some.
func TestGetAgainstASecondReading(t *testing.T) {
	r := rand.New(rand.NewSource(203))
	trees := 0
	for range 30000 {
		s := []byte(saidTree(anyTree(r, 1+r.Intn(5))))
		for range r.Intn(3) {
			at := r.Intn(len(s))
			switch r.Intn(4) {
			case 0:
				s = slices.Delete(s, at, at+1)
			case 1:
				s = slices.Insert(s, at, byte(r.Intn(256)))
			case 2:
				s[at] = byte(r.Intn(256))
			case 3:
				s[at] ^= 1
			}
		}
		want, ok := saidGet(string(s))
		if !ok {
			isNoTree(t, "any", string(s))
			continue
		}
		trees++
		if got, err := route.Get(s); err != api.OK || !same(got, want) {
			t.Fatalf("Get(%q): %s, error %d, want %s", s, brief(got), err, brief(want))
		}
	}
	if trees < 10000 || trees > 25000 {
		t.Errorf("%d trees", trees)
	}
}
