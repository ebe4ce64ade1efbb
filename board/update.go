package board

import (
	"maps"
	"slices"

	"klaxon/api"
	"klaxon/labels"
	"klaxon/state"
	"klaxon/value"
)

// Update is the board behind an evaluation that said l, and what has changed
// (P18.2, P18.3).
func Update(b []api.Entry, h api.Holds, own []api.Label, interval, now int64, l ...api.Result) ([]api.Entry, []api.Change) {
	e := evaluation{stands: byKey(b), holds: h, interval: interval, now: now}
	if len(b) > 0 && isOfAll(l) {
		for _, x := range b {
			e.step(labels.Key(x.Labels), l[0])
		}
	} else {
		for _, r := range l {
			e.hear(r, own)
		}
	}
	return e.told()
}

// isOfAll is whether the evaluation says of no label set how it stands, and so
// the same of each.
func isOfAll(l []api.Result) bool {
	if len(l) != 1 || len(l[0].Labels) > 0 {
		return false
	}
	return l[0].Kind == api.ResNoData || l[0].Kind == api.ResError
}

// evaluation is the entries while one goes on, by their labels' keys.
type evaluation struct {
	stands   map[string]stand
	holds    api.Holds
	interval int64
	now      int64
}

// stand is an entry, which may be stepped by now.
type stand struct {
	api.Entry
	ahead   int // its State ahead of the evaluation
	stepped bool
}

func byKey(b []api.Entry) map[string]stand {
	stands := make(map[string]stand, len(b))
	for _, x := range b {
		stands[labels.Key(x.Labels)] = stand{Entry: x, ahead: x.Instance.State}
	}
	return stands
}

// hear steps the entry that r is of, which may be a new one; or passes r over.
func (e *evaluation) hear(r api.Result, own []api.Label) {
	set, err := labels.With(r.Labels, own...)
	if err != api.OK {
		return
	}
	key := labels.Key(set)
	x, there := e.stands[key]
	switch {
	case x.stepped:
		// A result ahead of r was of the same. One that was passed over needs
		// no mark: that there was no room for it is so for r too.
	case there:
		e.step(key, r)
	case len(e.stands) < api.MaxInstances:
		first := api.Entry{Labels: set, Instance: state.New(e.now)}
		e.stands[key] = stand{Entry: first, ahead: api.StateNormal}
		e.step(key, r)
	}
}

func (e *evaluation) step(key string, r api.Result) {
	x := e.stands[key]
	x.Instance = state.Step(x.Instance, e.holds, r.Kind, r.Value, e.now)
	x.stepped = true
	e.stands[key] = x
}

// isOver is whether x is taken away. Where all were stepped, none is.
func (e *evaluation) isOver(x stand) bool {
	return !x.stepped && e.now-x.Instance.Seen >= 2*e.interval
}

// told is the board now, and what has changed.
func (e *evaluation) told() ([]api.Entry, []api.Change) {
	var b []api.Entry
	var changes []api.Change
	for _, x := range slices.SortedFunc(maps.Values(e.stands), compare) {
		if e.isOver(x) {
			x.Instance.State, x.Instance.Value = api.StateNormal, value.Null()
		} else {
			b = append(b, api.Entry{Labels: slices.Clone(x.Labels), Instance: x.Instance})
		}
		if x.Instance.State != x.ahead {
			changes = append(changes, x.change())
		}
	}
	return b, changes
}

func compare(x, y stand) int { return labels.Compare(x.Labels, y.Labels) }

func (x stand) change() api.Change {
	return api.Change{
		Labels: slices.Clone(x.Labels),
		From:   x.ahead,
		To:     x.Instance.State,
		Value:  x.Instance.Value,
	}
}
