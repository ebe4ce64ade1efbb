package series

import (
	"slices"

	"klaxon/api"
	"klaxon/value"
)

const (
	howLast  = "last"
	howMin   = "min"
	howMax   = "max"
	howSum   = "sum"
	howMean  = "mean"
	howCount = "count"
)

// Reduce is the value of the points (P10.1).
func Reduce(how string, strict bool, l ...api.Point) (api.Value, api.Errno) {
	switch {
	case !isHow(how):
		return api.Value{}, api.ErrHow
	case len(l) > api.MaxPoints:
		return api.Value{}, api.ErrMany
	case value.Check(valuesOf(l)...) != api.OK:
		return api.Value{}, api.ErrValue
	}
	if !strict {
		l = known(l)
	}
	return reduced(how, l), api.OK
}

func isHow(how string) bool {
	switch how {
	case howLast, howMin, howMax, howSum, howMean, howCount:
		return true
	}
	return false
}

func valuesOf(l []api.Point) []api.Value {
	values := make([]api.Value, len(l))
	for i, p := range l {
		values[i] = p.Value
	}
	return values
}

// known is the points without those that are dropped where nobody is strict.
func known(l []api.Point) []api.Point {
	return slices.DeleteFunc(slices.Clone(l), isUnknown)
}

func isUnknown(p api.Point) bool {
	return p.Value == value.Null() || p.Value == value.NaN()
}

// reduced goes by the document's order: a count is a number of no point, too,
// and the last one counts whatever the others are.
func reduced(how string, l []api.Point) api.Value {
	switch {
	case how == howCount:
		return count(l)
	case len(l) == 0:
		return value.Null()
	case how == howLast:
		return last(l)
	case slices.ContainsFunc(l, isUnknown):
		return value.NaN()
	}
	switch how {
	case howMin:
		return utmost("<", l)
	case howMax:
		return utmost(">", l)
	case howSum:
		return sum(l)
	}
	return do("/", sum(l), count(l))
}

func count(l []api.Point) api.Value {
	const thousand = 1000
	return value.Num(int64(len(l)) * thousand)
}

// last lets a point of the same At take the place of one that stands ahead.
func last(l []api.Point) api.Value {
	found := l[0]
	for _, p := range l {
		if p.At >= found.At {
			found = p
		}
	}
	return found.Value
}

// utmost is the value that op holds of, against each other one.
func utmost(op string, l []api.Point) api.Value {
	found := l[0].Value
	for _, p := range l {
		if value.True(do(op, p.Value, found)) {
			found = p.Value
		}
	}
	return found
}

func sum(l []api.Point) api.Value {
	total := l[0].Value
	for _, p := range l[1:] {
		total = do("+", total, p.Value)
	}
	return total
}
