package labels

import (
	"strings"

	"klaxon/api"
)

const (
	opIs        = "="
	opIsNot     = "!="
	opBegins    = "^="
	opBeginsNot = "!^"
)

// Check is OK if they may be asked of a set together (P9.7).
func Check(l ...api.Matcher) api.Errno {
	if len(l) > api.MaxLabels {
		return api.ErrMany
	}
	for _, m := range l {
		if !isName(m.Name) || !isOp(m.Op) || len(m.Value) > api.MaxLabel {
			return api.ErrLabel
		}
	}
	return api.OK
}

func isOp(op string) bool {
	switch op {
	case opIs, opIsNot, opBegins, opBeginsNot:
		return true
	}
	return false
}

// Match is whether all of ms hold of l (P9.7).
func Match(l []api.Label, ms ...api.Matcher) bool {
	for _, m := range ms {
		if !holds(m, Get(l, m.Name)) {
			return false
		}
	}
	return true
}

func holds(m api.Matcher, v string) bool {
	switch m.Op {
	case opIs:
		return v == m.Value
	case opIsNot:
		return v != m.Value
	case opBegins:
		return strings.HasPrefix(v, m.Value)
	case opBeginsNot:
		return !strings.HasPrefix(v, m.Value)
	}
	return false
}
