package acl

import (
	"bytes"

	"klaxon/api"
	"klaxon/quill"
	"klaxon/rule"
)

// Put is the bytes of f (P15.3).
func Put(f api.Folder) ([]byte, api.Errno) {
	if !rule.Name(f.Name) || f.Next < 1 {
		return nil, api.ErrGrant
	}
	if err := Check(f.Grants...); err != api.OK {
		return nil, err
	}
	return layFolder(f), api.OK
}

func layFolder(f api.Folder) []byte {
	b := quill.Text(nil, f.Name)
	b = quill.Number(b, uint64(len(f.Grants)))
	for _, g := range f.Grants {
		b = quill.Signed(b, int64(g.Kind))
		b = quill.Text(b, g.Name)
		b = quill.Signed(b, int64(g.Level))
	}
	return quill.Signed(b, f.Next)
}

// Get is the folder whose bytes b is (P15.3). What is read is put once more and
// held against b, so that which bytes a folder has is said in Put alone: where
// the strip has an error, or bytes are left, that comes to other bytes, or to
// none.
func Get(b []byte) (api.Folder, api.Errno) {
	f := readFolder(quill.Unroll(b))
	again, err := Put(f)
	if err != api.OK || !bytes.Equal(again, b) {
		return api.Folder{}, api.ErrGrant
	}
	return f, api.OK
}

func readFolder(s *quill.Strip) api.Folder {
	return api.Folder{
		Name:   s.Text(api.MaxFolder),
		Grants: readGrants(s),
		Next:   s.Signed(),
	}
}

// readGrants reads no more than there may be, however many are announced.
func readGrants(s *quill.Strip) []api.Grant {
	var l []api.Grant
	for range min(s.Number(), api.MaxGrants) {
		l = append(l, api.Grant{
			Kind:  int(s.Signed()),
			Name:  s.Text(api.MaxFolder),
			Level: int(s.Signed()),
		})
	}
	return l
}
