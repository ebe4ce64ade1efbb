package rule_test

import (
	"errors"
	"math/big"
	"regexp"
	"slices"
	"strings"

	"klaxon/api"
	"klaxon/dag"
)

// What the document says of a rule's bytes, without quill: a second reading, as
// pieces, each of which a test may put another one in place of.

type piece struct {
	name  string
	kind  int
	bytes string
}

const (
	number = iota // of labels, of nodes
	signed
	text
	truth
)

func saidNumber(n uint64) string {
	s := string([]byte{byte(n % 128)})
	for n /= 128; n > 0; n /= 128 {
		s = string([]byte{byte(128 + n%128)}) + s
	}
	return s
}

func saidSigned(n int64) string {
	if n < 0 {
		return "-" + saidNumber(uint64(-(n+1))+1)
	}
	return "+" + saidNumber(uint64(n))
}

func saidText(s string) string { return saidNumber(uint64(len(s))) + s }

func numberPiece(name string, n int) piece {
	return piece{name, number, saidNumber(uint64(n))}
}

func signedPiece(name string, n int64) piece { return piece{name, signed, saidSigned(n)} }

func textPiece(name, s string) piece { return piece{name, text, saidText(s)} }

func truthPiece(name string, is bool) piece {
	if is {
		return piece{name, truth, "\x01"}
	}
	return piece{name, truth, "\x00"}
}

// rulePieces is P14.3.
func rulePieces(r api.Rule) []piece {
	all := []piece{
		textPiece("Folder", r.Folder), textPiece("Group", r.Group), textPiece("Title", r.Title),
		signedPiece("Interval", r.Interval), signedPiece("Offset", r.Offset), signedPiece("For", r.For), signedPiece("Keep", r.Keep),
		signedPiece("NoData", int64(r.NoData)), signedPiece("OnError", int64(r.OnError)),
		numberPiece("Labels", len(r.Labels)),
	}
	for _, x := range r.Labels {
		all = append(all, textPiece("Name", x.Name), textPiece("Value", x.Value))
	}
	all = append(all, numberPiece("Nodes", len(r.Nodes)))
	for _, n := range r.Nodes {
		all = append(all,
			textPiece("Ref", n.Ref), signedPiece("Kind", int64(n.Kind)),
			textPiece("Source", n.Source), textPiece("Input", n.Input), textPiece("How", n.How), truthPiece("Strict", n.Strict),
			signedPiece("Low's Kind", int64(n.Low.Kind)), signedPiece("Low's N", n.Low.N),
			signedPiece("High's Kind", int64(n.High.Kind)), signedPiece("High's N", n.High.N),
			textPiece("Text", n.Text))
	}
	return append(all, textPiece("Condition", r.Condition), truthPiece("Paused", r.Paused))
}

// versionPieces is P14.4.
func versionPieces(v api.Version) []piece {
	all := []piece{
		signedPiece("Id", v.Id), signedPiece("Number", v.Number), textPiece("By", v.By), signedPiece("At", v.At), truthPiece("Deleted", v.Deleted),
	}
	return append(all, rulePieces(v.Rule)...)
}

func joined(all []piece) string {
	var b strings.Builder
	for _, p := range all {
		b.WriteString(p.bytes)
	}
	return b.String()
}

func saidRule(r api.Rule) string { return joined(rulePieces(r)) }

func saidVersion(v api.Version) string { return joined(versionPieces(v)) }

var (
	modelName      = regexp.MustCompile(`^[a-z0-9-]{1,24}$`)
	modelLabelName = regexp.MustCompile(`^[A-Za-z_][A-Za-z0-9_]{0,63}$`)
)

func saidSet(l []api.Label) bool {
	for i, x := range l {
		if !modelLabelName.MatchString(x.Name) || x.Value == "" || len(x.Value) > 128 || i > 0 && l[i-1].Name >= x.Name {
			return false
		}
	}
	return len(l) <= 16
}

// saidCheck is P14.2.
func saidCheck(r api.Rule) api.Errno {
	policies := []int{1, 2, 3, 4}
	right := modelName.MatchString(r.Folder) && modelName.MatchString(r.Group) && r.Title != "" && len(r.Title) <= 64
	right = right && 0 < r.Interval && r.Interval <= 86400 && 0 <= r.Offset && r.Offset < r.Interval
	right = right && 0 <= r.For && r.For <= 1000000 && 0 <= r.Keep && r.Keep <= 1000000
	right = right && slices.Contains(policies, r.NoData) && slices.Contains(policies, r.OnError) && saidSet(r.Labels)
	if !right {
		return api.ErrRule
	}
	if err := dag.Check(r.Condition, r.Nodes...); err != api.OK {
		return err
	}
	if len(saidRule(r)) > 8192 {
		return api.ErrLong
	}
	return api.OK
}

func saidCheckVersion(v api.Version) api.Errno {
	if v.Id < 1 || v.Number < 1 || !modelName.MatchString(v.By) || v.At < 0 || v.At > 1<<40 {
		return api.ErrRule
	}
	return saidCheck(v.Rule)
}

// tape is bytes that are read by the document's words; what cannot be read is a
// panic, which saidGet and saidGetVersion take for their answer.
type tape struct{ left string }

var errTape = errors.New("no bytes of a rule")

func (p *tape) must(ok bool) {
	if !ok {
		panic(errTape)
	}
}

func (p *tape) cut(n int) string {
	p.must(n <= len(p.left))
	head := p.left[:n]
	p.left = p.left[n:]
	return head
}

func (p *tape) big() *big.Int {
	n := new(big.Int)
	for i := 0; ; i++ {
		c := p.cut(1)[0]
		p.must(i > 0 || c != 128)
		n.Add(n.Lsh(n, 7), big.NewInt(int64(c%128)))
		if c < 128 {
			return n
		}
	}
}

// count is as far as there may be so many bytes at all, each of which takes one.
func (p *tape) count() int {
	n := p.big()
	p.must(n.Cmp(big.NewInt(int64(len(p.left)))) <= 0)
	return int(n.Int64())
}

func (p *tape) signed() int64 {
	sign, n := p.cut(1), p.big()
	p.must(sign == "+" || sign == "-" && n.Sign() > 0)
	if sign == "-" {
		n.Neg(n)
	}
	p.must(n.IsInt64())
	return n.Int64()
}

func (p *tape) text() string { return p.cut(p.count()) }

func (p *tape) truth() bool {
	c := p.cut(1)
	p.must(c == "\x00" || c == "\x01")
	return c == "\x01"
}

func (p *tape) rule() api.Rule {
	var r api.Rule
	r.Folder = p.text()
	r.Group = p.text()
	r.Title = p.text()
	for _, to := range []*int64{&r.Interval, &r.Offset, &r.For, &r.Keep} {
		*to = p.signed()
	}
	r.NoData = int(p.signed())
	r.OnError = int(p.signed())
	for range p.count() {
		var x api.Label
		x.Name = p.text()
		x.Value = p.text()
		r.Labels = append(r.Labels, x)
	}
	for range p.count() {
		r.Nodes = append(r.Nodes, p.node())
	}
	r.Condition = p.text()
	r.Paused = p.truth()
	return r
}

func (p *tape) node() api.Node {
	var n api.Node
	n.Ref = p.text()
	n.Kind = int(p.signed())
	for _, to := range []*string{&n.Source, &n.Input, &n.How} {
		*to = p.text()
	}
	n.Strict = p.truth()
	for _, to := range []*api.Value{&n.Low, &n.High} {
		to.Kind = int(p.signed())
		to.N = p.signed()
	}
	n.Text = p.text()
	return n
}

// read is what do makes of a tape of s, and whether it comes to just its end.
func read[T any](s string, do func(p *tape) T) (x T, ok bool) {
	defer func() {
		if r := recover(); r != nil {
			if r != errTape {
				panic(r)
			}
			var none T
			x, ok = none, false
		}
	}()
	p := &tape{left: s}
	x = do(p)
	return x, p.left == ""
}

// saidGet is the rule whose bytes s is, and whether there is one.
func saidGet(s string) (api.Rule, bool) {
	r, ok := read(s, (*tape).rule)
	if !ok || saidCheck(r) != api.OK {
		return api.Rule{}, false
	}
	return r, true
}

// saidGetVersion is the version whose bytes s is, and whether there is one.
func saidGetVersion(s string) (api.Version, bool) {
	v, ok := read(s, func(p *tape) api.Version {
		var v api.Version
		v.Id = p.signed()
		v.Number = p.signed()
		v.By = p.text()
		v.At = p.signed()
		v.Deleted = p.truth()
		v.Rule = p.rule()
		return v
	})
	if !ok || saidCheckVersion(v) != api.OK {
		return api.Version{}, false
	}
	return v, true
}
