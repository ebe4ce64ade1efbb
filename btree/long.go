package btree

import (
	"klaxon/api"
	"klaxon/fixed"
)

// A piece of a long value begins with the page of the next piece, 0 in the last
// one. Its highest bit is set, which no node's first byte has.
const (
	pieceHead = 8
	pieceBit  = 1 << 63
)

// piece is how many bytes of a long value a page takes.
func (w *walk) piece() int { return w.room - pieceHead }

// short is how many bytes a value has at most that stands in its cell.
func (w *walk) short() int { return w.piece() / 8 }

func (w *walk) soundValue(c cell) bool {
	if c.page == 0 {
		return len(c.value) <= w.short()
	}
	return c.count > w.short() && c.count <= api.MaxValue
}

// value is the value of a leaf's cell.
func (w *walk) value(c cell) (string, api.Errno) {
	if c.page == 0 {
		return c.value, api.OK
	}
	var value []byte
	page := c.page
	for rest := c.count; rest > 0; rest = c.count - len(value) {
		p, err := w.load(page)
		if err != api.OK {
			return "", err
		}
		if len(p) != pieceHead+min(rest, w.piece()) {
			return "", api.ErrTree
		}
		head := fixed.Of(p[:pieceHead])
		page = int(head &^ pieceBit)
		isLast := rest <= w.piece()
		if head < pieceBit || isLast != (page == 0) {
			return "", api.ErrTree
		}
		value = append(value, p[pieceHead:]...)
	}
	return string(value), api.OK
}

// layValue is the cell of a key and its value; of a long one the pieces are laid
// from the last one on, since each names the one behind it.
func (w *walk) layValue(key, value string) (cell, api.Errno) {
	if len(value) <= w.short() {
		return cell{key: key, value: value}, api.OK
	}
	page := 0
	for end := len(value); end > 0; {
		begin := (end - 1) / w.piece() * w.piece()
		p := make([]byte, pieceHead, pieceHead+end-begin)
		fixed.Lay(p, uint64(page)|pieceBit)
		next, err := w.lay(append(p, value[begin:end]...))
		if err != api.OK {
			return cell{}, err
		}
		page, end = next, begin
	}
	return cell{key: key, page: page, count: len(value)}, api.OK
}
