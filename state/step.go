package state

import "klaxon/api"

// Step is x behind an evaluation that said this result and this value (P17.3).
func Step(x api.Instance, h api.Holds, result int, v api.Value, now int64) api.Instance {
	x.Seen, x.Value = now, v
	move, ok := moves()[Means(h, result)]
	if !ok {
		return x
	}
	return move(stand{x: x, holds: h, now: now})
}

// stand is what a move goes by: an instance that was evaluated now, whose State
// is still that of ahead.
type stand struct {
	x     api.Instance
	holds api.Holds
	now   int64
}

// moves has for each result that a result comes to what is done.
func moves() map[int]func(stand) api.Instance {
	return map[int]func(stand) api.Instance{
		api.ResNormal: stand.calm,
		api.ResAlert:  stand.breach,
		api.ResNoData: stand.noData,
		api.ResError:  stand.fail,
	}
}

func (s stand) breach() api.Instance {
	if s.x.State == api.StateAlerting {
		s.x.Quiet = api.Never
		return s.x
	}
	if s.x.State != api.StatePending {
		s.x.From = s.now
	}
	if s.now-s.x.From >= s.holds.For {
		return s.come(api.StateAlerting)
	}
	return s.come(api.StatePending)
}

func (s stand) calm() api.Instance {
	if s.x.State != api.StateAlerting || s.holds.Keep <= 0 {
		return s.come(api.StateNormal)
	}
	if s.x.Quiet == api.Never {
		s.x.Quiet = s.now
	}
	if s.now-s.x.Quiet >= s.holds.Keep {
		return s.come(api.StateNormal)
	}
	return s.x
}

func (s stand) noData() api.Instance { return s.come(api.StateNoData) }

func (s stand) fail() api.Instance { return s.come(api.StateError) }

// come is the instance in that state, in which it may be already: then Since
// stays.
func (s stand) come(state int) api.Instance {
	if s.x.State != state {
		s.x.State, s.x.Since = state, s.now
	}
	switch state {
	case api.StateAlerting:
		s.x.Quiet = api.Never
	case api.StateNormal, api.StateNoData, api.StateError:
		s.x.From, s.x.Quiet = api.Never, api.Never
	}
	return s.x
}
