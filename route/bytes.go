package route

import (
	"bytes"

	"klaxon/api"
	"klaxon/quill"
)

// Continue as a byte.
const (
	no  = 0
	yes = 1
)

const maxOp = 2 // bytes of a matcher's Op

// Put is the bytes of r (P20.3).
func Put(r api.Route) ([]byte, api.Errno) {
	if err := Check(r); err != api.OK {
		return nil, err
	}
	// A route's Kids come behind all else of it: so all routes stand in the order
	// of their numbers.
	var b []byte
	for x := range tree(r) {
		b = layRoute(b, x)
	}
	return b, api.OK
}

// layRoute is b and behind it the bytes of r, up to the number of its Kids.
func layRoute(b []byte, r api.Route) []byte {
	b = quill.Number(b, uint64(len(r.Matchers)))
	for _, m := range r.Matchers {
		b = quill.Text(b, m.Name, m.Op, m.Value)
	}
	b = quill.Text(b, r.Receiver)
	b = quill.Number(b, uint64(len(r.GroupBy)))
	b = quill.Text(b, r.GroupBy...)
	b = quill.Signed(b, r.Wait, r.Interval, r.Repeat)
	if r.Continue {
		b = append(b, yes)
	} else {
		b = append(b, no)
	}
	return quill.Number(b, uint64(len(r.Kids)))
}

// Get is the tree whose bytes b is (P20.3). What is read is put once more and held
// against b, so that which bytes a tree has is said in Put alone: where the strip
// has an error, or bytes are left, that comes to other bytes, or to none.
func Get(b []byte) (api.Route, api.Errno) {
	s := reader{Strip: quill.Unroll(b), left: api.MaxRoutes}
	r := s.route()
	again, err := Put(r)
	if err != api.OK || !bytes.Equal(again, b) {
		return api.Route{}, api.ErrRoute
	}
	return r, api.OK
}

// reader reads no more than there may be, however much is announced, and however
// deep.
type reader struct {
	*quill.Strip
	left int // how many more routes there may be
}

func (s *reader) route() api.Route {
	s.left--
	return api.Route{
		Matchers: s.matchers(),
		Receiver: s.Text(api.MaxFolder),
		GroupBy:  s.names(),
		Wait:     s.Signed(),
		Interval: s.Signed(),
		Repeat:   s.Signed(),
		Continue: s.One() == yes,
		Kids:     s.kids(),
	}
}

func (s *reader) matchers() []api.Matcher {
	var l []api.Matcher
	for range min(s.Number(), api.MaxLabels) {
		l = append(l, api.Matcher{Name: s.Text(api.MaxName), Op: s.Text(maxOp), Value: s.Text(api.MaxLabel)})
	}
	return l
}

func (s *reader) names() []string {
	var l []string
	for range min(s.Number(), api.MaxLabels) {
		l = append(l, s.Text(api.MaxName))
	}
	return l
}

func (s *reader) kids() []api.Route {
	var l []api.Route
	for n := s.Number(); n > 0 && s.left > 0; n-- {
		l = append(l, s.route())
	}
	return l
}
