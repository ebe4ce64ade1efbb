package page_test

import (
	"bytes"
	"encoding/binary"
	"encoding/hex"
	"math"
	"slices"
	"strings"
	"testing"

	"klaxon/api"
	"klaxon/page"
	"klaxon/quill"
)

func isErr(t *testing.T, what string, got, want api.Errno) {
	t.Helper()
	if got != want {
		t.Errorf("%s: error %d, want %d", what, got, want)
	}
}

func same(a, b api.Page) bool {
	return a.Kind == b.Kind && a.Id == b.Id && bytes.Equal(a.Load, b.Load)
}

func isZero(x api.Page) bool { return x.Kind == 0 && x.Id == 0 && len(x.Load) == 0 }

func laid(t *testing.T, size int, x api.Page) []byte {
	t.Helper()
	b, err := page.Put(size, x)
	if err != api.OK || len(b) != size {
		t.Fatalf("Put(%d, {%d, %d, %d bytes}): %d bytes, error %d", size, x.Kind, x.Id, len(x.Load), len(b), err)
	}
	return b
}

func got(t *testing.T, b []byte) api.Page {
	t.Helper()
	x, err := page.Get(b)
	if err != api.OK {
		t.Fatalf("Get of %d bytes: error %d", len(b), err)
	}
	return x
}

// noPage holds that Get refuses b, with the zero Page beside it.
func noPage(t *testing.T, what string, b []byte) {
	t.Helper()
	if x, err := page.Get(b); err != api.ErrPage || !isZero(x) {
		t.Errorf("Get of %s: %v, error %d", what, x, err)
	}
}

// marked is body and its mark behind it.
func marked(body []byte) []byte {
	return binary.BigEndian.AppendUint32(slices.Clone(body), quill.Mark(body))
}

// forged is size bytes with a right mark, whatever stands ahead of it.
func forged(size int, kind byte, id uint32, length uint16, load string) []byte {
	b := binary.BigEndian.AppendUint32([]byte{kind}, id)
	b = binary.BigEndian.AppendUint16(b, length)
	b = append(b, load...)
	return marked(append(b, make([]byte, size-4-len(b))...))
}

// P3.1
func TestRoom(t *testing.T) {
	for size := -100; size < 9000; size++ {
		want := 0
		if size >= 64 && size <= 8192 {
			want = size - 11
		}
		if got := page.Room(size); got != want {
			t.Errorf("Room(%d): %d, want %d", size, got, want)
		}
	}
	for _, size := range []int{math.MinInt, math.MinInt + 11, -1 << 32, 1<<32 + 64, math.MaxInt} {
		if got := page.Room(size); got != 0 {
			t.Errorf("Room(%d): %d", size, got)
		}
	}
}

func counted(n int) []byte {
	b := make([]byte, n)
	for i := range b {
		b[i] = byte(i)
	}
	return b
}

// P3.2: byte for byte, with the least and the greatest page, Kind, Id and Load.
func TestPut(t *testing.T) {
	for _, c := range []struct {
		size int
		x    api.Page
		head string
		mark string
	}{
		{64, api.Page{Kind: 'k', Id: 5, Load: []byte("ab")}, "6b 00000005 0002", "fa4d8424"},
		{64, api.Page{Kind: 1}, "01 00000000 0000", "5e966fee"},
		{64, api.Page{Kind: 1, Load: []byte{}}, "01 00000000 0000", "5e966fee"},
		{64, api.Page{Kind: 255, Id: math.MaxUint32, Load: bytes.Repeat([]byte{255}, 53)}, "ff ffffffff 0035", "51940059"},
		{65, api.Page{Kind: 7, Id: 0x01020304, Load: counted(54)}, "07 01020304 0036", "041c0744"},
		{8192, api.Page{Kind: 9, Id: 16383, Load: bytes.Repeat([]byte("Z"), 8181)}, "09 00003fff 1ff5", "3c1b4aa3"},
		{8192, api.Page{Kind: 9, Id: 16383, Load: bytes.Repeat([]byte("x"), 300)}, "09 00003fff 012c", "05b00c46"},
	} {
		head, _ := hex.DecodeString(strings.ReplaceAll(c.head, " ", ""))
		mark, _ := hex.DecodeString(c.mark)
		zeros := make([]byte, c.size-11-len(c.x.Load))
		if b := laid(t, c.size, c.x); !bytes.Equal(b, slices.Concat(head, c.x.Load, zeros, mark)) {
			t.Errorf("Put(%d, {%d, %d, %d bytes}): %x", c.size, c.x.Kind, c.x.Id, len(c.x.Load), b)
		}
	}
}

// P3.2: the load may have all of the room, and not one byte more.
func TestPutOfJustTheRoom(t *testing.T) {
	for _, size := range []int{64, 65, 100, 500, 512, 4096, 8191, 8192} {
		full := bytes.Repeat([]byte{0xa5}, size-11)
		b := laid(t, size, api.Page{Kind: 3, Id: 2, Load: full})
		if !bytes.Equal(b, forged(size, 3, 2, uint16(size-11), string(full))) {
			t.Errorf("Put(%d): %x", size, b)
		}
		for _, more := range []int{1, 2, 11, 70000} {
			b, err := page.Put(size, api.Page{Kind: 3, Id: 2, Load: append(full, make([]byte, more)...)})
			isErr(t, "Put of more than the room", err, api.ErrLong)
			if len(b) != 0 {
				t.Errorf("Put(%d): %d bytes beside an error", size, len(b))
			}
		}
	}
}

// P3.2: ErrArg ahead of ErrLong, and no bytes beside an error.
func TestPutIsRefused(t *testing.T) {
	refused := func(size int, kind byte, load int, want api.Errno) {
		t.Helper()
		b, err := page.Put(size, api.Page{Kind: kind, Id: 1, Load: make([]byte, load)})
		if err != want || len(b) != 0 {
			t.Errorf("Put(%d, {%d, 1, %d bytes}): %d bytes, error %d, want %d", size, kind, load, len(b), err, want)
		}
	}
	for _, size := range []int{63, 8193, 11, 12, 10, 7, 1, 0, -1, -64, math.MinInt, math.MaxInt} {
		for _, kind := range []byte{0, 1, 255} {
			for _, load := range []int{0, 1, 52, 8182, 70000} {
				refused(size, kind, load, api.ErrArg)
			}
		}
	}
	for _, size := range []int{64, 100, 8192} {
		for _, load := range []int{0, 1, 53, 54, 8181, 8182, 70000} {
			refused(size, 0, load, api.ErrArg)
		}
	}
	refused(64, 1, 54, api.ErrLong)
	refused(64, 255, 65536, api.ErrLong) // of which two bytes hold only 0
	refused(8192, 255, 65536+8, api.ErrLong)
}

// P3.3
func TestGet(t *testing.T) {
	for _, size := range []int{64, 65, 512, 8191, 8192} {
		room := size - 11
		for _, length := range []int{0, 1, 2, 53, room - 1, room} {
			for _, kind := range []byte{1, 107, 255} {
				for _, id := range []uint32{0, 1, 255, 256, 65536, 1 << 24, 1 << 31, math.MaxUint32} {
					load := strings.Repeat("l", length)
					x := got(t, forged(size, kind, id, uint16(length), load))
					if x.Kind != kind || x.Id != id || string(x.Load) != load {
						t.Errorf("Get: {%d, %d, %d bytes}, want {%d, %d, %d bytes}", x.Kind, x.Id, len(x.Load), kind, id, length)
					}
				}
			}
		}
	}
}

// P3.3: a load's bytes 0 at its end are its own.
func TestGetCountsZerosOfLoad(t *testing.T) {
	for length := range 54 {
		if x := got(t, forged(64, 1, 1, uint16(length), "")); len(x.Load) != length || bytes.Count(x.Load, []byte{0}) != length {
			t.Errorf("Get: %x, want %d bytes 0", x.Load, length)
		}
	}
}

// P3.3: as many bytes as no page has, though their mark is right.
func TestGetOfWrongSizes(t *testing.T) {
	noPage(t, "nil", nil)
	noPage(t, "no bytes", []byte{})
	for size := range 11 {
		noPage(t, "a few bytes", make([]byte, size))
		noPage(t, "a few bytes", bytes.Repeat([]byte{1}, size))
	}
	for size := 11; size < 64; size++ {
		noPage(t, "too few bytes", forged(size, 1, 2, 0, ""))
		noPage(t, "too few bytes", forged(size, 1, 2, uint16(size-11), strings.Repeat("a", size-11)))
	}
	for _, size := range []int{8193, 8194, 8192 + 64, 16384, 65536, 65536 + 64, 100000} {
		noPage(t, "too many bytes", forged(size, 1, 2, 0, ""))
		noPage(t, "too many bytes", forged(size, 1, 2, 100, strings.Repeat("a", 100)))
	}
}

// P3.3: a page with bytes that are left, and one that lacks some.
func TestGetOfAnotherLength(t *testing.T) {
	for _, size := range []int{64, 100, 512} {
		b := laid(t, size, api.Page{Kind: 4, Id: 4, Load: []byte("load")})
		noPage(t, "a page less a byte", b[:size-1])
		noPage(t, "a page less its first byte", b[1:])
		noPage(t, "a page and a byte 0", append(slices.Clone(b), 0))
		noPage(t, "a page and its mark", append(slices.Clone(b), b[size-4:]...))
		noPage(t, "a page behind a byte 0", append([]byte{0}, b...))
		noPage(t, "two pages", append(slices.Clone(b), b...))
	}
}

// P3.3: what Put would not have laid, though the mark is right.
func TestGetOfForged(t *testing.T) {
	for _, size := range []int{64, 65, 512, 8192} {
		room := size - 11
		full := strings.Repeat("f", room)
		noPage(t, "Kind 0", forged(size, 0, 2, 1, "a"))
		noPage(t, "Kind 0, full", forged(size, 0, 2, uint16(room), full))
		noPage(t, "nothing but a mark", forged(size, 0, 0, 0, ""))
		for _, length := range []int{room + 1, room + 4, room + 5, size - 7, size, size + 1, 8192, 32768, 65535} {
			noPage(t, "more bytes than there is room for", forged(size, 1, 2, uint16(length), ""))
			noPage(t, "more bytes than there is room for", forged(size, 1, 2, uint16(length), full))
		}
		for _, length := range []int{0, 1, room / 2, room - 1} {
			for _, behind := range []int{length, (length + room - 1) / 2, room - 1} {
				load := make([]byte, room)
				load[behind] = 1
				noPage(t, "a byte 1 behind the load", forged(size, 1, 2, uint16(length), string(load)))
			}
		}
	}
}

// P3.3, P3.7
func TestGetOfWrongMark(t *testing.T) {
	for _, size := range []int{64, 65, 512} {
		b := laid(t, size, api.Page{Kind: 1, Id: 77, Load: []byte("some load")})
		for bit := range 32 {
			c := slices.Clone(b)
			c[size-4+bit/8] ^= 1 << (bit % 8)
			noPage(t, "a wrong mark", c)
		}
		noPage(t, "no mark", append(slices.Clone(b[:size-4]), 0, 0, 0, 0))
		turned := slices.Clone(b)
		slices.Reverse(turned[size-4:])
		noPage(t, "a mark with its lowest byte first", turned)
		noPage(t, "a mark of all of the bytes", append(slices.Clone(b[:size-4]), marked(b)[size:]...))
	}
}

// P3.3, P3.7: bytes that are all alike, the bytes 0 of a new disk among them.
func TestGetOfBytesAlike(t *testing.T) {
	for _, size := range []int{64, 65, 512, 1024, 8192} {
		for c := range 256 {
			noPage(t, "bytes alike", bytes.Repeat([]byte{byte(c)}, size))
		}
	}
	for size := range 9000 {
		noPage(t, "bytes 0", make([]byte, size))
	}
}

// P3.2: the load is neither changed nor kept, its spare room neither.
func TestPutKeepsNoList(t *testing.T) {
	room := bytes.Repeat([]byte("r"), 200)
	x := api.Page{Kind: 1, Id: 2, Load: room[10:30]}
	b := laid(t, 64, x)
	want := slices.Clone(b)
	for i := range b {
		b[i] = 0xee
	}
	if string(room) != strings.Repeat("r", 200) {
		t.Error("Put changed what it was handed")
	}
	b = laid(t, 64, x)
	clear(room)
	if !bytes.Equal(b, want) {
		t.Error("Put kept what it was handed")
	}
}

// P3.2, P3.3: what is answered is new each time, spare room too.
func TestAnswersAreNew(t *testing.T) {
	x := api.Page{Kind: 1, Id: 2, Load: []byte("load")}
	spoil := func(p []byte) {
		p = p[:cap(p)]
		for i := range p {
			p[i] = 0xee
		}
	}
	b, c := laid(t, 100, x), laid(t, 100, x)
	want := slices.Clone(c)
	spoil(b)
	if !bytes.Equal(c, want) {
		t.Error("two answers of Put share bytes")
	}
	y, z := got(t, c), got(t, c)
	spoil(y.Load)
	if !bytes.Equal(c, want) || !same(z, x) || !same(got(t, c), x) {
		t.Error("an answer of Get shares bytes")
	}
	spoil(c)
	if !same(z, x) {
		t.Error("Get kept what it was handed")
	}
}

// P3.3: what is handed in is not changed, its spare room neither.
func TestGetChangesNothing(t *testing.T) {
	room := bytes.Repeat([]byte("r"), 300)
	copy(room[100:], laid(t, 64, api.Page{Kind: 1, Id: 2, Load: []byte("load")}))
	want := slices.Clone(room)
	got(t, room[100:164])
	noPage(t, "what is no page", room[101:165])
	if !bytes.Equal(room, want) {
		t.Error("Get changed what it was handed")
	}
}
