package acl_test

import (
	"errors"
	"math/big"
	"regexp"
	"slices"
	"strings"

	"klaxon/api"
)

// What the document says, read a second time: without quill, and of the bytes as
// pieces, each of which a test may put another one in place of.

type piece struct {
	name  string
	kind  int
	bytes string
}

const (
	number = iota // of grants
	signed
	text
)

func saidNumber(n uint64) string {
	s := string([]byte{byte(n % 128)})
	for n /= 128; n > 0; n /= 128 {
		s = string([]byte{byte(128 + n%128)}) + s
	}
	return s
}

func saidSigned(n int64) string {
	if n < 0 {
		return "-" + saidNumber(uint64(-(n+1))+1)
	}
	return "+" + saidNumber(uint64(n))
}

func saidText(s string) string { return saidNumber(uint64(len(s))) + s }

// pieces is P15.3.
func pieces(f api.Folder) []piece {
	all := []piece{{"Name", text, saidText(f.Name)}, {"Grants", number, saidNumber(uint64(len(f.Grants)))}}
	for _, g := range f.Grants {
		all = append(all,
			piece{"a grant's Kind", signed, saidSigned(int64(g.Kind))},
			piece{"a grant's Name", text, saidText(g.Name)},
			piece{"a grant's Level", signed, saidSigned(int64(g.Level))})
	}
	return append(all, piece{"Next", signed, saidSigned(f.Next)})
}

func joined(all []piece) string {
	var b strings.Builder
	for _, p := range all {
		b.WriteString(p.bytes)
	}
	return b.String()
}

func saidFolder(f api.Folder) string { return joined(pieces(f)) }

var (
	modelName = regexp.MustCompile(`^[a-z0-9-]{1,24}$`)
	modelRole = regexp.MustCompile(`^(viewer|editor|admin)$`)
)

// saidCheck is P15.1.
func saidCheck(l []api.Grant) api.Errno {
	if len(l) > 16 {
		return api.ErrMany
	}
	type who struct {
		kind int
		name string
	}
	given := map[who]int{}
	for _, g := range l {
		form := map[int]*regexp.Regexp{1: modelName, 2: modelName, 3: modelRole}[g.Kind]
		if form == nil || !form.MatchString(g.Name) || !slices.Contains([]int{1, 2, 3}, g.Level) {
			return api.ErrGrant
		}
		given[who{g.Kind, g.Name}]++
	}
	if len(given) < len(l) {
		return api.ErrThere
	}
	return api.OK
}

// saidUser is P15.1.
func saidUser(u api.User) api.Errno {
	right := modelName.MatchString(u.Name) && modelRole.MatchString(u.Role) && len(u.Teams) <= 8
	for _, s := range u.Teams {
		right = right && modelName.MatchString(s)
	}
	if !right {
		return api.ErrGrant
	}
	return api.OK
}

// saidLevel is P15.2, with P15.4 where grants are below LevelNone.
func saidLevel(u api.User, l []api.Grant) int {
	if u.Role == "admin" {
		return 3
	}
	levels := []int{0}
	for _, g := range l {
		mine := map[int][]string{1: {u.Name}, 2: u.Teams, 3: {u.Role}}[g.Kind]
		if slices.Contains(mine, g.Name) {
			levels = append(levels, g.Level)
		}
	}
	return slices.Max(levels)
}

// saidPut is P15.3.
func saidPut(f api.Folder) (string, api.Errno) {
	if !modelName.MatchString(f.Name) || f.Next < 1 {
		return "", api.ErrGrant
	}
	if err := saidCheck(f.Grants); err != api.OK {
		return "", err
	}
	return saidFolder(f), api.OK
}

// tape is bytes that are read by the document's words; what cannot be read is a
// panic, which saidGet takes for its answer.
type tape struct{ left string }

var errTape = errors.New("no bytes of a folder")

func (p *tape) must(ok bool) {
	if !ok {
		panic(errTape)
	}
}

func (p *tape) cut(n int) string {
	p.must(n <= len(p.left))
	head := p.left[:n]
	p.left = p.left[n:]
	return head
}

func (p *tape) big() *big.Int {
	n := new(big.Int)
	for i := 0; ; i++ {
		c := p.cut(1)[0]
		p.must(i > 0 || c != 128)
		n.Add(n.Lsh(n, 7), big.NewInt(int64(c%128)))
		if c < 128 {
			return n
		}
	}
}

// count is as far as there may be so many at all, each of which takes a byte.
func (p *tape) count() int {
	n := p.big()
	p.must(n.Cmp(big.NewInt(int64(len(p.left)))) <= 0)
	return int(n.Int64())
}

func (p *tape) signed() int64 {
	sign, n := p.cut(1), p.big()
	p.must(sign == "+" || sign == "-" && n.Sign() > 0)
	if sign == "-" {
		n.Neg(n)
	}
	p.must(n.IsInt64())
	return n.Int64()
}

func (p *tape) text() string { return p.cut(p.count()) }

func (p *tape) folder() api.Folder {
	var f api.Folder
	f.Name = p.text()
	for range p.count() {
		var g api.Grant
		g.Kind = int(p.signed())
		g.Name = p.text()
		g.Level = int(p.signed())
		f.Grants = append(f.Grants, g)
	}
	f.Next = p.signed()
	return f
}

// saidGet is the folder whose bytes s is, and whether there is one.
func saidGet(s string) (f api.Folder, ok bool) {
	defer func() {
		if r := recover(); r != nil {
			if r != errTape {
				panic(r)
			}
			f, ok = api.Folder{}, false
		}
	}()
	p := &tape{left: s}
	f = p.folder()
	p.must(p.left == "")
	_, err := saidPut(f)
	p.must(err == api.OK)
	return f, true
}
