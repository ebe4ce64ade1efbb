package rule

import (
	"klaxon/api"
	"klaxon/quill"
)

// A truth as a byte.
const (
	no  = 0
	yes = 1
)

// layRule is b and behind it the bytes of r, whether or not r may be.
func layRule(b []byte, r api.Rule) []byte {
	b = quill.Text(b, r.Folder, r.Group, r.Title)
	b = quill.Signed(b, r.Interval, r.Offset, r.For, r.Keep, int64(r.NoData), int64(r.OnError))
	b = quill.Number(b, uint64(len(r.Labels)))
	for _, x := range r.Labels {
		b = quill.Text(b, x.Name, x.Value)
	}
	b = quill.Number(b, uint64(len(r.Nodes)))
	for _, n := range r.Nodes {
		b = layNode(b, n)
	}
	b = quill.Text(b, r.Condition)
	return layTruth(b, r.Paused)
}

func layNode(b []byte, n api.Node) []byte {
	b = quill.Text(b, n.Ref)
	b = quill.Signed(b, int64(n.Kind))
	b = quill.Text(b, n.Source, n.Input, n.How)
	b = layTruth(b, n.Strict)
	b = quill.Signed(b, int64(n.Low.Kind), n.Low.N, int64(n.High.Kind), n.High.N)
	return quill.Text(b, n.Text)
}

func layTruth(b []byte, truth bool) []byte {
	if truth {
		return append(b, yes)
	}
	return append(b, no)
}

// layVersion is b and behind it the bytes of v, whether or not v may be.
func layVersion(b []byte, v api.Version) []byte {
	b = quill.Signed(b, v.Id, v.Number)
	b = quill.Text(b, v.By)
	b = quill.Signed(b, v.At)
	b = layTruth(b, v.Deleted)
	return layRule(b, v.Rule)
}

// reader reads what is laid here. quill's strip keeps its own errors; wrong is
// that something was read which quill takes, but nothing here lays.
type reader struct {
	*quill.Strip
	wrong bool
}

func unroll(b []byte) *reader { return &reader{Strip: quill.Unroll(b)} }

// wasRight is whether all was read without a fault, and nothing is left.
func (s *reader) wasRight() bool { return !s.wrong && s.Over() == api.OK }

// text is bounded by what is no longer a rule in any case: how long each text
// may be, those say who look at what was read.
func (s *reader) text() string { return s.Text(api.MaxRule) }

func (s *reader) truth() bool {
	c := s.One()
	s.wrong = s.wrong || c != no && c != yes
	return c == yes
}

// count is how many follow. Too many are none, so that nobody reads on for
// what may be up to 2^64 times.
func (s *reader) count(most uint64) uint64 {
	n := s.Number()
	if n > most {
		s.wrong = true
		return 0
	}
	return n
}

func (s *reader) version() api.Version {
	return api.Version{
		Id:      s.Signed(),
		Number:  s.Signed(),
		By:      s.text(),
		At:      s.Signed(),
		Deleted: s.truth(),
		Rule:    s.rule(),
	}
}

func (s *reader) rule() api.Rule {
	return api.Rule{
		Folder:    s.text(),
		Group:     s.text(),
		Title:     s.text(),
		Interval:  s.Signed(),
		Offset:    s.Signed(),
		For:       s.Signed(),
		Keep:      s.Signed(),
		NoData:    int(s.Signed()),
		OnError:   int(s.Signed()),
		Labels:    s.labels(),
		Nodes:     s.nodes(),
		Condition: s.text(),
		Paused:    s.truth(),
	}
}

func (s *reader) labels() []api.Label {
	var l []api.Label
	for range s.count(api.MaxLabels) {
		l = append(l, api.Label{Name: s.text(), Value: s.text()})
	}
	return l
}

func (s *reader) nodes() []api.Node {
	var l []api.Node
	for range s.count(api.MaxNodes) {
		l = append(l, s.node())
	}
	return l
}

func (s *reader) node() api.Node {
	return api.Node{
		Ref:    s.text(),
		Kind:   int(s.Signed()),
		Source: s.text(),
		Input:  s.text(),
		How:    s.text(),
		Strict: s.truth(),
		Low:    s.value(),
		High:   s.value(),
		Text:   s.text(),
	}
}

func (s *reader) value() api.Value {
	return api.Value{Kind: int(s.Signed()), N: s.Signed()}
}
