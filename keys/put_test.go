package keys_test

import (
	"math"
	"math/rand"
	"slices"
	"strings"
	"testing"

	"klaxon/api"
	"klaxon/keys"
)

// P7.1
func TestParts(t *testing.T) {
	for _, n := range edgeNumbers() {
		if p := keys.Int(n); p != (api.Part{Kind: api.PartInt, Int: n}) {
			t.Errorf("Int(%d): %v", n, p)
		}
	}
	for _, s := range append(edgeTexts(), strings.Repeat("x", api.MaxPart+1), strings.Repeat("x", 100000)) {
		if p := keys.Text(s); p != (api.Part{Kind: api.PartText, Text: s}) {
			t.Errorf("Text(%q): %#v", s, p)
		}
	}
}

// writtenInts has numbers around each further byte, with their bytes written
// out.
var writtenInts = []struct {
	n int64
	b string
}{
	{0, "\x80"},
	{1, "\x81\x01"},
	{255, "\x81\xff"},
	{256, "\x82\x01\x00"},
	{300, "\x82\x01\x2c"},
	{1<<16 - 1, "\x82\xff\xff"},
	{1 << 16, "\x83\x01\x00\x00"},
	{1<<24 - 1, "\x83\xff\xff\xff"},
	{1 << 24, "\x84\x01\x00\x00\x00"},
	{1<<32 - 1, "\x84\xff\xff\xff\xff"},
	{1 << 32, "\x85\x01\x00\x00\x00\x00"},
	{1<<40 - 1, "\x85\xff\xff\xff\xff\xff"},
	{1 << 40, "\x86\x01\x00\x00\x00\x00\x00"},
	{1<<48 - 1, "\x86\xff\xff\xff\xff\xff\xff"},
	{1 << 48, "\x87\x01\x00\x00\x00\x00\x00\x00"},
	{1<<56 - 1, "\x87\xff\xff\xff\xff\xff\xff\xff"},
	{1 << 56, "\x88\x01\x00\x00\x00\x00\x00\x00\x00"},
	{math.MaxInt64, "\x88\x7f\xff\xff\xff\xff\xff\xff\xff"},

	{-1, "\x7f"},
	{-2, "\x7e\xfe"},
	{-256, "\x7e\x00"},
	{-257, "\x7d\xfe\xff"},
	{-300, "\x7d\xfe\xd4"},
	{-1 << 16, "\x7d\x00\x00"},
	{-1<<16 - 1, "\x7c\xfe\xff\xff"},
	{-1 << 24, "\x7c\x00\x00\x00"},
	{-1<<24 - 1, "\x7b\xfe\xff\xff\xff"},
	{-1 << 32, "\x7b\x00\x00\x00\x00"},
	{-1<<32 - 1, "\x7a\xfe\xff\xff\xff\xff"},
	{-1 << 40, "\x7a\x00\x00\x00\x00\x00"},
	{-1<<40 - 1, "\x79\xfe\xff\xff\xff\xff\xff"},
	{-1 << 48, "\x79\x00\x00\x00\x00\x00\x00"},
	{-1<<48 - 1, "\x78\xfe\xff\xff\xff\xff\xff\xff"},
	{-1 << 56, "\x78\x00\x00\x00\x00\x00\x00\x00"},
	{-1<<56 - 1, "\x77\xfe\xff\xff\xff\xff\xff\xff\xff"},
	{math.MinInt64, "\x77\x80\x00\x00\x00\x00\x00\x00\x00"},
}

// writtenTexts has texts around a group's end, with their bytes written out.
var writtenTexts = []struct{ s, b string }{
	{"", "\xa0\x00\x00\x00\x00\x00\x00\x00\x00\x00"},
	{"a", "\xa0a\x00\x00\x00\x00\x00\x00\x00\x01"},
	{"\x00", "\xa0\x00\x00\x00\x00\x00\x00\x00\x00\x01"},
	{"abcdefg", "\xa0abcdefg\x00\x07"},
	{"abcdefgh", "\xa0abcdefgh\x08"},
	{"abcdefghi", "\xa0abcdefgh\x09i\x00\x00\x00\x00\x00\x00\x00\x01"},
	{"abcdefgh\x00", "\xa0abcdefgh\x09\x00\x00\x00\x00\x00\x00\x00\x00\x01"},
	{"abcdefgh\x09", "\xa0abcdefgh\x09\x09\x00\x00\x00\x00\x00\x00\x00\x01"},
	{"abcdefg\x09", "\xa0abcdefg\x09\x08"},
	{"\xff\xff\xff\xff\xff\xff\xff\xff", "\xa0\xff\xff\xff\xff\xff\xff\xff\xff\x08"},
	{"abcdefghijklmno", "\xa0abcdefgh\x09ijklmno\x00\x07"},
	{"abcdefghijklmnop", "\xa0abcdefgh\x09ijklmnop\x08"},
	{"abcdefghijklmnopq", "\xa0abcdefgh\x09ijklmnop\x09q\x00\x00\x00\x00\x00\x00\x00\x01"},
	{
		strings.Repeat("abcdefgh", api.MaxPart/8),
		"\xa0" + strings.Repeat("abcdefgh\x09", api.MaxPart/8-1) + "abcdefgh\x08",
	},
}

// P7.2
func TestNumberIsWritten(t *testing.T) {
	for _, w := range writtenInts {
		if s := put(t, keys.Int(w.n)); s != w.b {
			t.Errorf("%d: %x, want %x", w.n, s, w.b)
		}
	}
}

// P7.2
func TestTextIsWritten(t *testing.T) {
	for _, w := range writtenTexts {
		if s := put(t, keys.Text(w.s)); s != w.b {
			t.Errorf("%q: %x, want %x", w.s, s, w.b)
		}
	}
}

// P7.2: one part behind the other.
func TestPartsAreWritten(t *testing.T) {
	if s := put(t); s != "" {
		t.Errorf("no part: %x", s)
	}
	if s := put(t, []api.Part{}...); s != "" {
		t.Errorf("an empty list: %x", s)
	}
	got := put(t, keys.Int(-300), keys.Text("a"), keys.Int(0), keys.Text(""))
	want := "\x7d\xfe\xd4" + "\xa0a\x00\x00\x00\x00\x00\x00\x00\x01" + "\x80" + "\xa0\x00\x00\x00\x00\x00\x00\x00\x00\x00"
	if got != want {
		t.Errorf("four parts: %x, want %x", got, want)
	}
	if s := put(t, many(api.MaxParts)...); s != strings.Repeat("\x80", api.MaxParts) {
		t.Errorf("MaxParts parts: %x", s)
	}
	longest := slices.Repeat([]api.Part{keys.Text(strings.Repeat("x", api.MaxPart))}, api.MaxParts)
	if s := put(t, longest...); s != said(longest) {
		t.Errorf("the longest key: %x", s)
	}
}

// P7.2
func TestKeysAgainstTheDocument(t *testing.T) {
	for _, p := range edgeParts() {
		if s := put(t, p); s != said([]api.Part{p}) {
			t.Errorf("%#v: %x, want %x", p, s, said([]api.Part{p}))
		}
	}
	r := rand.New(rand.NewSource(1))
	for range 5000 {
		l := anyList(r)
		if s := put(t, l...); s != said(l) {
			t.Fatalf("%s: %x, want %x", show(l), s, said(l))
		}
	}
}

// refused has lists that are no key's, each with the error that comes first.
func refused() []struct {
	name string
	l    []api.Part
	want api.Errno
} {
	long := strings.Repeat("x", api.MaxPart+1)
	good := keys.Text("a")
	noKind, kind3, below := api.Part{}, api.Part{Kind: 3}, api.Part{Kind: -1}
	textInNumber := api.Part{Kind: api.PartInt, Int: 5, Text: "a"}
	numberInText := api.Part{Kind: api.PartText, Int: 5, Text: "a"}
	tooLong := keys.Text(long)
	return []struct {
		name string
		l    []api.Part
		want api.Errno
	}{
		{"one part more", many(api.MaxParts + 1), api.ErrMany},
		{"many more", many(1000), api.ErrMany},
		{"one part more, the first one of no Kind", append([]api.Part{noKind}, many(api.MaxParts)...), api.ErrMany},
		{"one part more, the first one too long", append([]api.Part{tooLong}, many(api.MaxParts)...), api.ErrMany},
		{"no Kind", []api.Part{noKind}, api.ErrArg},
		{"no Kind, with a number", []api.Part{{Int: 1}}, api.ErrArg},
		{"no Kind, with a text", []api.Part{{Text: "a"}}, api.ErrArg},
		{"no Kind, with a text that is too long", []api.Part{{Text: long}}, api.ErrArg},
		{"Kind 3", []api.Part{kind3}, api.ErrArg},
		{"Kind -1", []api.Part{below}, api.ErrArg},
		{"the greatest Kind", []api.Part{{Kind: math.MaxInt}}, api.ErrArg},
		{"the least Kind", []api.Part{{Kind: math.MinInt}}, api.ErrArg},
		{"a Kind whose low byte is PartInt", []api.Part{{Kind: 256 + api.PartInt}}, api.ErrArg},
		{"a number with a text", []api.Part{textInNumber}, api.ErrArg},
		{"0 with a text", []api.Part{{Kind: api.PartInt, Text: "\x00"}}, api.ErrArg},
		{"a number with a text that is too long", []api.Part{{Kind: api.PartInt, Text: long}}, api.ErrArg},
		{"a text with a number", []api.Part{numberInText}, api.ErrArg},
		{"the empty text with a number", []api.Part{{Kind: api.PartText, Int: -1}}, api.ErrArg},
		{"a text that is too long, with a number", []api.Part{{Kind: api.PartText, Int: 1, Text: long}}, api.ErrArg},
		{"a text that is too long", []api.Part{tooLong}, api.ErrLong},
		{"a text that is much too long", []api.Part{keys.Text(strings.Repeat("x", 1<<20))}, api.ErrLong},
		{"too long, ahead of no Kind", []api.Part{good, tooLong, noKind}, api.ErrLong},
		{"no Kind, ahead of too long", []api.Part{good, noKind, tooLong}, api.ErrArg},
		{"a number with a text, ahead of too long", []api.Part{textInNumber, tooLong}, api.ErrArg},
		{"too long, ahead of a text with a number", []api.Part{tooLong, numberInText}, api.ErrLong},
		{"the last one of MaxParts of no Kind", append(many(api.MaxParts-1), noKind), api.ErrArg},
		{"the last one of MaxParts too long", append(many(api.MaxParts-1), tooLong), api.ErrLong},
	}
}

// P7.2
func TestPutRefuses(t *testing.T) {
	for _, c := range refused() {
		if s, err := keys.Put(c.l...); s != "" || err != c.want {
			t.Errorf("%s: %x, error %d, want %d", c.name, s, err, c.want)
		}
	}
}

// P7.5
func TestRange(t *testing.T) {
	r := rand.New(rand.NewSource(2))
	lists := [][]api.Part{nil, {}, many(api.MaxParts), {keys.Text("a")}, {keys.Text("")}, {keys.Int(0)}, {keys.Int(-1), keys.Text("\xff")}}
	for range 500 {
		lists = append(lists, anyList(r))
	}
	for _, l := range lists {
		from, to, err := keys.Range(l...)
		if from != said(l) || to != said(l)+"\xff" || err != api.OK {
			t.Errorf("Range(%s): %x, %x, error %d", show(l), from, to, err)
		}
	}
}

// P7.5
func TestRangeRefuses(t *testing.T) {
	for _, c := range refused() {
		if from, to, err := keys.Range(c.l...); from != "" || to != "" || err != c.want {
			t.Errorf("%s: %x, %x, error %d, want %d", c.name, from, to, err, c.want)
		}
	}
}

// P7.2, P7.4, P7.5: lists that are handed in stay, their spare room too.
func TestListsStay(t *testing.T) {
	r := rand.New(rand.NewSource(3))
	for range 200 {
		room := append(anyList(r), anyPart(r), anyPart(r))
		kept := slices.Clone(room)
		l := room[:len(room)-2]
		keys.Put(l...)
		keys.Range(l...)
		keys.Compare(l, room)
		keys.Compare(room, l)
		if !slices.Equal(room, kept) {
			t.Fatalf("%s became %s", show(kept), show(room))
		}
	}
}
