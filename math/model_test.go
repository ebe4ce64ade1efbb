package math_test

import (
	"math/rand"
	"regexp"
	"slices"
	"strings"
	"testing"

	"klaxon/api"
	"klaxon/math"
)

// model reads an expression token by token, without the grammar's levels: a
// stack of what waits for its right operand, and one of the operands so far.
type model struct {
	waits    []wait
	operands []string
	ready    bool // an operand has just ended
}

// wait is an operation of two, a sign, a function, or a bracket.
type wait struct {
	name     string
	kind     byte // 2, 1, f, (
	compares bool // of a bracket: a comparison stands in it that nothing has parted from here
}

var (
	tokens    = regexp.MustCompile(`(?s)^(?:\|\||&&|[=!<>]=|[0-9]+(?:\.[0-9]+)?|\$[A-Za-z0-9_]*|[A-Za-z_][A-Za-z0-9_]*|.)`)
	modelRef  = regexp.MustCompile(`^\$[A-Z][A-Za-z0-9_]{0,15}$`)
	modelNum  = regexp.MustCompile(`^(0|[1-9][0-9]{0,11}|1000000000000)$|^(0|[1-9][0-9]{0,11})\.[0-9]{0,2}[1-9]$`)
	modelWord = regexp.MustCompile(`^(null|nan|inf)$`)
	modelCall = regexp.MustCompile(`^(abs|floor|is_(null|nan|inf|number))$`)
)

// said is what P11.1 and P11.2 say of s: its tree, as show shows it.
func said(s string) (string, api.Errno, int) {
	if len(s) > 1024 {
		return "", api.ErrLong, 0
	}
	m := model{waits: []wait{{kind: '('}}}
	place := 0
	for {
		for place < len(s) && s[place] == ' ' {
			place++
		}
		token := tokens.FindString(s[place:])
		if err := m.take(token); err != api.OK {
			return "", err, place
		}
		if token == "" {
			return m.operands[0], api.OK, 0
		}
		place += len(token)
	}
}

// take takes a token, or the end, of which the token is "".
func (m *model) take(token string) api.Errno {
	if last := m.waits[len(m.waits)-1]; last.kind == 'f' {
		if token != "(" {
			return api.ErrExpr
		}
		m.waits = append(m.waits, wait{kind: '('})
		return api.OK
	}
	if m.ready {
		return m.takeBehind(token)
	}
	return m.takeOperand(token)
}

func (m *model) takeOperand(token string) api.Errno {
	alone := modelRef.MatchString(token) || modelNum.MatchString(token) || modelWord.MatchString(token)
	if !alone && !modelCall.MatchString(token) && !slices.Contains([]string{"-", "!", "("}, token) {
		return api.ErrExpr
	}
	if m.nest() > 32 {
		return api.ErrDeep
	}
	switch {
	case alone:
		m.operands = append(m.operands, token)
		m.endOperand()
	case token == "(":
		m.waits = append(m.waits, wait{kind: '('})
	case token == "-" || token == "!":
		m.waits = append(m.waits, wait{name: token, kind: '1'})
	default:
		m.waits = append(m.waits, wait{name: token, kind: 'f'})
	}
	return api.OK
}

// nest is how many brackets and signs are open, but the one that holds all.
func (m *model) nest() int {
	n := -1
	for _, w := range m.waits {
		if w.kind == '(' || w.kind == '1' {
			n++
		}
	}
	return n
}

// endOperand lets signs and functions have the operand that has just ended.
func (m *model) endOperand() {
	m.ready = true
	for last := m.waits[len(m.waits)-1]; last.kind == '1' || last.kind == 'f'; last = m.waits[len(m.waits)-1] {
		m.fold(1)
	}
}

// fold makes the last one that waits an operand, of the last n operands.
func (m *model) fold(n int) {
	w := m.waits[len(m.waits)-1]
	from := len(m.operands) - n
	whole := w.name + "(" + strings.Join(m.operands[from:], ", ") + ")"
	m.waits = m.waits[:len(m.waits)-1]
	m.operands = append(m.operands[:from], whole)
}

func (m *model) takeBehind(token string) api.Errno {
	bracket := len(m.waits) - 1
	for m.waits[bracket].kind != '(' {
		bracket--
	}
	level := levelOf(token)
	switch {
	case token == "" && bracket == 0, token == ")" && bracket > 0:
		m.foldTo(-1)
		m.waits = m.waits[:len(m.waits)-1]
		if token == ")" {
			m.endOperand()
		}
		return api.OK
	case level < 0, level == relLevel && m.waits[bracket].compares:
		return api.ErrExpr
	}
	if level <= relLevel {
		m.waits[bracket].compares = level == relLevel
	}
	m.foldTo(level)
	m.waits = append(m.waits, wait{name: token, kind: '2'})
	m.ready = false
	return api.OK
}

// foldTo folds what binds as close as this level, or closer.
func (m *model) foldTo(level int) {
	for {
		last := m.waits[len(m.waits)-1]
		if last.kind != '2' || levelOf(last.name) < level {
			return
		}
		m.fold(2)
	}
}

// isSaid asks that Parse tells just what the document says.
func isSaid(t *testing.T, s string) {
	t.Helper()
	tree, err, place := said(s)
	if err == api.OK {
		parses(t, s, tree)
		return
	}
	refuses(t, s, err, place)
}

// P11.1, P11.2: each row of few tokens, with blanks between and without.
func TestParseOfEachFewTokens(t *testing.T) {
	each := []string{"1", "$A", "nan", "abs", "(", ")", "-", "!", "<", "=", "&&", "||", "+", "*", "&"}
	var all func(row []string, left int)
	all = func(row []string, left int) {
		isSaid(t, strings.Join(row, " "))
		isSaid(t, strings.Join(row, ""))
		if left == 0 || t.Failed() {
			return
		}
		for _, token := range each {
			all(append(row, token), left-1)
		}
	}
	all(nil, 4)
}

// P11.1, P11.2: what somebody may write, and what is left of it when somebody
// spoils it.
func TestParseAgainstTheDocument(t *testing.T) {
	r := rand.New(rand.NewSource(1))
	good := 0
	for range 20000 {
		s := anyText(r, r.Intn(30))
		if _, err, _ := math.Parse(s); err == api.OK {
			good++
		}
		isSaid(t, s)
		for range 3 {
			s = spoiled(r, s)
			isSaid(t, s)
		}
		if t.Failed() {
			return
		}
	}
	if good < 15000 {
		t.Errorf("only %d texts have a tree", good)
	}
}

// spoiled puts something in that may be right there or not, takes a byte out,
// or cuts the text.
func spoiled(r *rand.Rand, s string) string {
	more := []string{
		" ", "(", ")", "-", "!", "=", "<", ">", "&", "|", "&&", "||", "$", "$A", "$a", ".", "1.", "1", "0", "10", "a", "_", "abs", "floor(", "is_nan", "nan", "inf",
		"\t", "\n", "\x00", "ä", "\xff", "%", "[", "A", "+", "*", "/", "==", "!=", "<=", strings.Repeat("(", 30), strings.Repeat("-", 30), strings.Repeat("abs(!", 16),
	}
	at := r.Intn(len(s) + 1)
	switch r.Intn(4) {
	case 0:
		return s[:at]
	case 1:
		return s[:at] + s[min(at+1, len(s)):]
	}
	return s[:at] + more[r.Intn(len(more))] + s[at:]
}

// P11.2: bytes of all kinds.
func TestParseOfAnyBytes(t *testing.T) {
	r := rand.New(rand.NewSource(2))
	const likely = "  ()$ABab_019.-!=<>&|+*/nulif\t\xc3"
	for range 100000 {
		b := make([]byte, r.Intn(12))
		for i := range b {
			b[i] = likely[r.Intn(len(likely))]
			if r.Intn(20) == 0 {
				b[i] = byte(r.Intn(256))
			}
		}
		isSaid(t, string(b))
		if t.Failed() {
			return
		}
	}
}
