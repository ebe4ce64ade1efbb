package board

import (
	"bytes"

	"klaxon/api"
	"klaxon/quill"
)

// Put is the bytes of b (P18.4).
func Put(b []api.Entry) ([]byte, api.Errno) {
	if err := Check(b); err != api.OK {
		return nil, err
	}
	p := quill.Number(nil, uint64(len(b)))
	for _, x := range b {
		p = layLabels(p, x.Labels)
		p = layInstance(p, x.Instance)
	}
	return p, api.OK
}

func layLabels(p []byte, l []api.Label) []byte {
	p = quill.Number(p, uint64(len(l)))
	for _, x := range l {
		p = quill.Text(p, x.Name, x.Value)
	}
	return p
}

func layInstance(p []byte, x api.Instance) []byte {
	return quill.Signed(p, int64(x.State), x.Since, x.From, x.Quiet, x.Seen, int64(x.Value.Kind), x.Value.N)
}

// Get is the board whose bytes b is (P18.4). What is read is put once more and
// held against b, so that which bytes a board has is said in Put alone: where
// the strip has an error, or bytes are left, that comes to other bytes, or to
// none.
func Get(b []byte) ([]api.Entry, api.Errno) {
	board := readBoard(quill.Unroll(b))
	again, err := Put(board)
	if err != api.OK || !bytes.Equal(again, b) {
		return nil, api.ErrBoard
	}
	return board, api.OK
}

// readBoard, like readLabels, reads no more than there may be, however many are
// announced.
func readBoard(s *quill.Strip) []api.Entry {
	var b []api.Entry
	for range min(s.Number(), api.MaxInstances) {
		b = append(b, api.Entry{Labels: readLabels(s), Instance: readInstance(s)})
	}
	return b
}

func readLabels(s *quill.Strip) []api.Label {
	var l []api.Label
	for range min(s.Number(), api.MaxLabels) {
		l = append(l, api.Label{Name: s.Text(api.MaxName), Value: s.Text(api.MaxLabel)})
	}
	return l
}

func readInstance(s *quill.Strip) api.Instance {
	return api.Instance{
		State: int(s.Signed()),
		Since: s.Signed(),
		From:  s.Signed(),
		Quiet: s.Signed(),
		Seen:  s.Signed(),
		Value: api.Value{Kind: int(s.Signed()), N: s.Signed()},
	}
}
