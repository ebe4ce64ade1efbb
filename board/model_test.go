package board_test

import (
	"cmp"
	"errors"
	"math/big"
	"math/rand"
	"regexp"
	"slices"
	"strings"
	"testing"

	"klaxon/api"
	"klaxon/board"
	"klaxon/state"
)

// What the document says, read a second time: of an instance as the layer below
// steps it, and of all else by itself.

var modelName = regexp.MustCompile(`^[A-Za-z_][A-Za-z0-9_]{0,63}$`)

func saidOrder(a, b []api.Label) int {
	return slices.CompareFunc(a, b, func(x, y api.Label) int {
		return cmp.Or(strings.Compare(x.Name, y.Name), strings.Compare(x.Value, y.Value))
	})
}

// saidSet is the set of these labels, and whether there is one.
func saidSet(l []api.Label) ([]api.Label, bool) {
	names := map[string]int{}
	for _, x := range l {
		if !modelName.MatchString(x.Name) || x.Value == "" || len(x.Value) > 128 {
			return nil, false
		}
		names[x.Name]++
	}
	set := slices.SortedFunc(slices.Values(l), func(x, y api.Label) int { return strings.Compare(x.Name, y.Name) })
	return set, len(names) == len(l) && len(l) <= 16
}

// saidKey is the labels of a result with own ones, and whether there are such.
func saidKey(l, own []api.Label) ([]api.Label, bool) {
	all := slices.Clone(own)
	for _, x := range l {
		if !slices.ContainsFunc(own, func(y api.Label) bool { return y.Name == x.Name }) {
			all = append(all, x)
		}
	}
	return saidSet(all)
}

// saidCheck is P18.1.
func saidCheck(b []api.Entry) api.Errno {
	if len(b) > 100 {
		return api.ErrMany
	}
	for i, x := range b {
		set, ok := saidSet(x.Labels)
		if !ok || saidOrder(set, x.Labels) != 0 || state.Check(x.Instance) != api.OK {
			return api.ErrArg
		}
		for _, ahead := range b[:i] {
			if saidOrder(ahead.Labels, x.Labels) >= 0 {
				return api.ErrArg
			}
		}
	}
	return api.OK
}

func place(b []api.Entry, l []api.Label) int {
	return slices.IndexFunc(b, func(x api.Entry) bool { return saidOrder(x.Labels, l) == 0 })
}

// saidHeard is of each key the result that counts, in their order, as entries
// that have nothing but their labels, and the results beside them.
func saidHeard(u update) (keys []api.Entry, results []api.Result) {
	for _, r := range u.l {
		set, ok := saidKey(r.Labels, u.own)
		if ok && place(keys, set) < 0 {
			keys, results = append(keys, api.Entry{Labels: set}), append(results, r)
		}
	}
	return keys, results
}

// saidUpdate is P18.2 and P18.3.
func saidUpdate(u update) ([]api.Entry, []api.Change) {
	var next []api.Entry
	if len(u.l) == 1 && len(u.l[0].Labels) == 0 && (u.l[0].Kind == 3 || u.l[0].Kind == 4) && len(u.b) > 0 {
		for _, x := range u.b {
			next = append(next, entry(x.Labels, state.Step(x.Instance, u.h, u.l[0].Kind, u.l[0].Value, u.now)))
		}
		return next, saidChanges(u.b, next)
	}
	keys, results := saidHeard(u)
	for _, x := range u.b {
		if i := place(keys, x.Labels); i >= 0 {
			next = append(next, entry(x.Labels, state.Step(x.Instance, u.h, results[i].Kind, results[i].Value, u.now)))
		} else if u.now-x.Instance.Seen < 2*u.interval {
			next = append(next, x)
		}
	}
	number := len(u.b)
	for i, key := range keys {
		if place(u.b, key.Labels) < 0 && number < 100 {
			next = append(next, entry(key.Labels, state.Step(state.New(u.now), u.h, results[i].Kind, results[i].Value, u.now)))
			number++
		}
	}
	slices.SortFunc(next, func(x, y api.Entry) int { return saidOrder(x.Labels, y.Labels) })
	return next, saidChanges(u.b, next)
}

// saidChanges is P18.3: what is not there stands in StateNormal, and has no
// value.
func saidChanges(b, next []api.Entry) []api.Change {
	stands := func(b []api.Entry, l []api.Label) (int, api.Value) {
		if i := place(b, l); i >= 0 {
			return b[i].Instance.State, b[i].Instance.Value
		}
		return 1, api.Value{Kind: 2}
	}
	all := slices.Concat(b, next)
	slices.SortFunc(all, func(x, y api.Entry) int { return saidOrder(x.Labels, y.Labels) })
	all = slices.CompactFunc(all, func(x, y api.Entry) bool { return saidOrder(x.Labels, y.Labels) == 0 })
	var l []api.Change
	for _, x := range all {
		from, _ := stands(b, x.Labels)
		to, v := stands(next, x.Labels)
		if from != to {
			l = append(l, api.Change{Labels: x.Labels, From: from, To: to, Value: v})
		}
	}
	return l
}

// The bytes, without quill, as pieces, each of which a test may put another one
// in place of.

type piece struct {
	name  string
	kind  int
	bytes string
}

const (
	number = iota // of entries, of labels
	signed
	text
)

func saidNumber(n uint64) string {
	s := string([]byte{byte(n % 128)})
	for n /= 128; n > 0; n /= 128 {
		s = string([]byte{byte(128 + n%128)}) + s
	}
	return s
}

func saidSigned(n int64) string {
	if n < 0 {
		return "-" + saidNumber(uint64(-(n+1))+1)
	}
	return "+" + saidNumber(uint64(n))
}

func saidText(s string) string { return saidNumber(uint64(len(s))) + s }

// pieces is P18.4.
func pieces(b []api.Entry) []piece {
	all := []piece{{"entries", number, saidNumber(uint64(len(b)))}}
	for _, x := range b {
		all = append(all, piece{"Labels", number, saidNumber(uint64(len(x.Labels)))})
		for _, y := range x.Labels {
			all = append(all, piece{"a label's Name", text, saidText(y.Name)}, piece{"a label's Value", text, saidText(y.Value)})
		}
		i := x.Instance
		all = append(all,
			piece{"State", signed, saidSigned(int64(i.State))},
			piece{"Since", signed, saidSigned(i.Since)},
			piece{"From", signed, saidSigned(i.From)},
			piece{"Quiet", signed, saidSigned(i.Quiet)},
			piece{"Seen", signed, saidSigned(i.Seen)},
			piece{"Value's Kind", signed, saidSigned(int64(i.Value.Kind))},
			piece{"Value's N", signed, saidSigned(i.Value.N)})
	}
	return all
}

func joined(all []piece) string {
	var b strings.Builder
	for _, p := range all {
		b.WriteString(p.bytes)
	}
	return b.String()
}

func saidBoard(b []api.Entry) string { return joined(pieces(b)) }

// tape is bytes that are read by the document's words; what cannot be read is a
// panic, which saidGet takes for its answer.
type tape struct{ left string }

var errTape = errors.New("no bytes of a board")

func (p *tape) must(ok bool) {
	if !ok {
		panic(errTape)
	}
}

func (p *tape) cut(n int) string {
	p.must(n <= len(p.left))
	head := p.left[:n]
	p.left = p.left[n:]
	return head
}

func (p *tape) big() *big.Int {
	n := new(big.Int)
	for i := 0; ; i++ {
		c := p.cut(1)[0]
		p.must(i > 0 || c != 128)
		n.Add(n.Lsh(n, 7), big.NewInt(int64(c%128)))
		if c < 128 {
			return n
		}
	}
}

// count is as far as there may be so many at all, each of which takes a byte.
func (p *tape) count() int {
	n := p.big()
	p.must(n.Cmp(big.NewInt(int64(len(p.left)))) <= 0)
	return int(n.Int64())
}

func (p *tape) signed() int64 {
	sign, n := p.cut(1), p.big()
	p.must(sign == "+" || sign == "-" && n.Sign() > 0)
	if sign == "-" {
		n.Neg(n)
	}
	p.must(n.IsInt64())
	return n.Int64()
}

func (p *tape) text() string { return p.cut(p.count()) }

func (p *tape) entry() api.Entry {
	var x api.Entry
	for range p.count() {
		var y api.Label
		y.Name = p.text()
		y.Value = p.text()
		x.Labels = append(x.Labels, y)
	}
	x.Instance.State = int(p.signed())
	for _, to := range []*int64{&x.Instance.Since, &x.Instance.From, &x.Instance.Quiet, &x.Instance.Seen} {
		*to = p.signed()
	}
	x.Instance.Value.Kind = int(p.signed())
	x.Instance.Value.N = p.signed()
	return x
}

// saidGet is the board whose bytes s is, and whether there is one.
func saidGet(s string) (b []api.Entry, ok bool) {
	defer func() {
		if r := recover(); r != nil {
			if r != errTape {
				panic(r)
			}
			b, ok = nil, false
		}
	}()
	p := &tape{left: s}
	for range p.count() {
		b = append(b, p.entry())
	}
	p.must(p.left == "" && saidCheck(b) == api.OK)
	return b, true
}

func oneOf[T any](r *rand.Rand, l ...T) T { return l[r.Intn(len(l))] }

func anyHolds(r *rand.Rand) api.Holds {
	return api.Holds{For: r.Int63n(12), Keep: r.Int63n(12), NoData: 1 + r.Intn(4), OnError: 1 + r.Intn(4)}
}

// anyLabels is labels of few names and values, which seldom are of no set.
func anyLabels(r *rand.Rand) []api.Label {
	if r.Intn(40) == 0 {
		return oneOf(r, append(noSets(), wide(api.MaxLabels), wide(api.MaxLabels-1))...)
	}
	var l []api.Label
	for _, i := range r.Perm(4)[:r.Intn(4)] {
		l = append(l, api.Label{Name: []string{"a", "ab", "b", "Z"}[i], Value: oneOf(r, "1", "2", "10", "\"", "\xff")})
	}
	return l
}

// anyOwn is a set.
func anyOwn(r *rand.Rand) []api.Label {
	return oneOf(r, nil, nil, list("a", "1"), list("ab", "3", "b", "1"), list("own", "1"), list("n1003", "z"), wide(api.MaxLabels))
}

func anyResult(r *rand.Rand) api.Result {
	kind := oneOf(r, 1, 1, 2, 2, 2, 3, 4)
	if r.Intn(30) == 0 {
		kind = oneOf(r, noResults()...)
	}
	return result(anyLabels(r), kind, oneOf(r, someValues()...))
}

// anyResults is seldom one without labels, seldom more than there is room for.
func anyResults(r *rand.Rand) []api.Result {
	switch r.Intn(12) {
	case 0:
		x := anyResult(r)
		x.Labels = oneOf(r, nil, []api.Label{})
		return []api.Result{x}
	case 1:
		return nil
	}
	var l []api.Result
	for range r.Intn(12) {
		l = append(l, anyResult(r))
	}
	if r.Intn(8) == 0 {
		for i := range 90 + r.Intn(30) {
			l = append(l, result(numbered(i+r.Intn(40)), 1+r.Intn(4), num(int64(i))))
		}
		r.Shuffle(len(l), func(i, j int) { l[i], l[j] = l[j], l[i] })
	}
	return l
}

// anyScript does something with each of the updates of a board that begins
// empty; do answers the board behind it.
func anyScript(r *rand.Rand, number int, do func(u update) []api.Entry) {
	u := update{h: anyHolds(r), own: anyOwn(r), interval: 1 + r.Int63n(6), now: oneOf[int64](r, 0, 9, maxTime-200)}
	for range number {
		u.l = anyResults(r)
		u.b = do(u)
		u.now = min(maxTime, u.now+oneOf(r, 0, 1, u.interval, u.interval, 2*u.interval, 3*u.interval))
		if r.Intn(20) == 0 {
			u.h, u.own, u.interval = anyHolds(r), anyOwn(r), 1+r.Int63n(6) // somebody changed the rule
		}
	}
}

// P18.2, P18.3: against the second reading.
func TestUpdateAgainstASecondReading(t *testing.T) {
	r := rand.New(rand.NewSource(181))
	sizes, changes := map[int]int{}, map[[2]int]int{}
	for range 600 {
		anyScript(r, 12, func(u update) []api.Entry {
			b, c := u.do()
			want, changed := saidUpdate(u)
			if !sameBoard(b, want) || !sameChanges(c, changed) {
				t.Fatalf("%s:\n%s\n%s, want\n%s\n%s", brief(u), brief(b), brief(c), brief(want), brief(changed))
			}
			sizes[len(b)]++
			for _, x := range c {
				changes[[2]int{x.From, x.To}]++
			}
			return b
		})
	}
	if sizes[0] < 100 || sizes[1] < 100 || sizes[99] < 5 || sizes[100] < 50 {
		t.Errorf("boards: %v", sizes)
	}
	for _, from := range allStates() {
		for _, to := range allStates() {
			cannot := from == to || from == api.StateAlerting && to == api.StatePending
			if n := changes[[2]int{from, to}]; (n == 0) != cannot {
				t.Errorf("%d times from %d to %d", n, from, to)
			}
		}
	}
}

// anyInstance is one that may be; its times have no order.
func anyInstance(r *rand.Rand) api.Instance {
	time := func() int64 { return oneOf(r, 0, 1, r.Int63n(100), r.Int63n(maxTime), maxTime) }
	x := instance(1+r.Intn(5), time(), time(), oneOf(r, someValues()...))
	if x.From != never {
		x.From = time()
	}
	if x.State == api.StateAlerting {
		x.From, x.Quiet = oneOf(r, never, x.From), oneOf(r, never, time())
	}
	return x
}

// anyBoard is one of not so many entries as there may be, most of the time.
func anyBoard(r *rand.Rand) []api.Entry {
	b := many(oneOf(r, 0, 1, 2, 3, 5, 8, 100))
	for i := range b {
		b[i].Instance = anyInstance(r)
		if set, ok := saidSet(anyLabels(r)); ok && len(b) < 100 && place(b, set) < 0 {
			b[i].Labels = set
		}
	}
	slices.SortFunc(b, func(x, y api.Entry) int { return saidOrder(x.Labels, y.Labels) })
	return b
}

// spoil is the board with some fault, or with none.
func spoil(r *rand.Rand, b []api.Entry) []api.Entry {
	b = append(slices.Clone(b), many(oneOf(r, 0, 0, 0, 2, 110))...)
	i, j := r.Intn(len(b)+1), r.Intn(len(b)+1)
	if i == len(b) || j == len(b) {
		return b
	}
	switch r.Intn(4) {
	case 0:
		b[i].Labels = oneOf(r, noSets()...)
	case 1:
		b[i], b[j] = b[j], b[i]
	case 2:
		b[i].Labels = b[j].Labels
	case 3:
		b[i].Instance = oneOf(r, unmaking()...)
	}
	return b
}

// P18.1, P18.4: against the second reading.
func TestCheckAndPutAgainstASecondReading(t *testing.T) {
	r := rand.New(rand.NewSource(182))
	seen := map[api.Errno]int{}
	for range 3000 {
		b := anyBoard(r)
		if r.Intn(2) > 0 {
			b = spoil(r, b)
		}
		err := saidCheck(b)
		if err == api.OK {
			accepts(t, "any", b)
		} else {
			refuses(t, "any", err, b)
		}
		seen[err]++
	}
	if seen[api.OK] < 200 || seen[api.ErrMany] < 200 || seen[api.ErrArg] < 200 {
		t.Errorf("%v", seen)
	}
}

// P18.4: of bytes that were a board's, but for some.
func TestGetAgainstASecondReading(t *testing.T) {
	r := rand.New(rand.NewSource(183))
	boards := 0
	for range 15000 {
		b := anyBoard(r)
		s := []byte(saidBoard(b[:min(len(b), 3)]))
		for range r.Intn(3) {
			at := r.Intn(len(s))
			switch r.Intn(4) {
			case 0:
				s = slices.Delete(s, at, at+1)
				s = append(s, 0)[:max(len(s), 1)]
			case 1:
				s = slices.Insert(s, at, byte(r.Intn(256)))
			case 2:
				s[at] = byte(r.Intn(256))
			case 3:
				s[at] ^= 1
			}
		}
		want, ok := saidGet(string(s))
		if !ok {
			isNoBoard(t, "any", string(s))
			continue
		}
		boards++
		if got, err := board.Get(s); err != api.OK || !sameBoard(got, want) {
			t.Fatalf("Get(%q): %s, error %d, want %s", s, brief(got), err, brief(want))
		}
	}
	if boards < 3000 || boards > 12000 {
		t.Errorf("%d boards", boards)
	}
}
