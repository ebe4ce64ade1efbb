package eval

import (
	"slices"

	"klaxon/api"
	"klaxon/math"
	"klaxon/series"
	"klaxon/value"
)

// How a threshold asks; what is none of these asks whether a value is out.
const (
	howGreater = "gt"
	howLess    = "lt"
	howIn      = "in"
)

// How a query's points become a value: as they stand.
const (
	queryHow    = "last"
	queryStrict = true
)

// bench is what a node is reckoned of: nodes that dag.Check has taken, what was
// answered, and the frames so far.
type bench struct {
	nodes   map[string]api.Node
	answers []api.Answer
	frames  []api.Frame
}

// reckoners has for each kind of node how its frame is reckoned.
func reckoners() map[int]func(*bench, api.Node) ([]api.Series, api.Errno) {
	return map[int]func(*bench, api.Node) ([]api.Series, api.Errno){
		api.NodeQuery:     (*bench).query,
		api.NodeReduce:    (*bench).reduce,
		api.NodeMath:      (*bench).math,
		api.NodeThreshold: (*bench).threshold,
	}
}

func (b *bench) query(n api.Node) ([]api.Series, api.Errno) {
	return b.ofPoints(n.Ref, queryHow, queryStrict)
}

// reduce goes back to the points, where there are some: in the frame of a query
// only the last one of each is left.
func (b *bench) reduce(n api.Node) ([]api.Series, api.Errno) {
	if b.nodes[n.Input].Kind == api.NodeQuery {
		return b.ofPoints(n.Input, n.How, n.Strict)
	}
	return b.ofEach(n.Input, func(v api.Value) api.Value {
		// One value, and a way that dag.Check has taken: it has no error.
		v, _ = series.Reduce(n.How, n.Strict, api.Point{Value: v})
		return v
	}), api.OK
}

func (b *bench) math(n api.Node) ([]api.Series, api.Errno) {
	// dag.Check has taken the text: it has a tree.
	x, _, _ := math.Parse(n.Text)
	return math.Eval(x, b.frames...)
}

func (b *bench) threshold(n api.Node) ([]api.Series, api.Errno) {
	return b.ofEach(n.Input, func(v api.Value) api.Value { return bounded(n, v) }), api.OK
}

// ofPoints is the frame of the points that a query was answered with.
func (b *bench) ofPoints(query, how string, strict bool) ([]api.Series, api.Errno) {
	answer, ok := b.answer(query)
	if !ok {
		return nil, api.ErrQuery
	}
	l := make([]api.Series, len(answer.Points))
	for i, p := range answer.Points {
		v, err := series.Reduce(how, strict, p.Points...)
		if err != api.OK {
			return nil, err
		}
		l[i] = api.Series{Labels: p.Labels, Value: v}
	}
	// Sort makes the labels anew, so that none of the answer's are told.
	return series.Sort(l...)
}

// answer is the answer to a query (P13.1), if there is one that did not fail.
func (b *bench) answer(query string) (api.Answer, bool) {
	i := slices.IndexFunc(b.answers, func(a api.Answer) bool { return a.Ref == query })
	if i < 0 || b.answers[i].Failed {
		return api.Answer{}, false
	}
	return b.answers[i], true
}

// ofEach is the frame of ref with each value replaced, and the labels made anew,
// for both frames are told.
func (b *bench) ofEach(ref string, change func(v api.Value) api.Value) []api.Series {
	i := slices.IndexFunc(b.frames, func(f api.Frame) bool { return f.Ref == ref })
	own := slices.Clone(b.frames[i].Series)
	for j, s := range own {
		own[j] = api.Series{Labels: slices.Clone(s.Labels), Value: change(s.Value)}
	}
	return own
}

// bounded is what a threshold says of a value.
func bounded(n api.Node, v api.Value) api.Value {
	switch n.How {
	case howGreater:
		return do(">", v, n.Low)
	case howLess:
		return do("<", v, n.Low)
	case howIn:
		return do("&&", do(">", v, n.Low), do("<", v, n.High))
	}
	return do("||", do("<", v, n.Low), do(">", v, n.High))
}

// do is value.Do of an operation that there is, and of values: it has no error.
func do(op string, l ...api.Value) api.Value {
	v, _ := value.Do(op, l...)
	return v
}
