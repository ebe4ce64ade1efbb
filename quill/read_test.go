package quill_test

import (
	"math"
	"strings"
	"testing"

	"klaxon/api"
	"klaxon/quill"
)

// stands asks for all that can be told of a strip without reading.
func stands(t *testing.T, what string, s *quill.Strip, where, more int, bad api.Errno, over api.Errno) {
	t.Helper()
	if s.Where() != where || s.More() != more {
		t.Errorf("%s: Where %d, More %d, want %d, %d", what, s.Where(), s.More(), where, more)
	}
	place := 0
	if bad != api.OK {
		place = where
	}
	if err, at := s.Bad(); err != bad || at != place {
		t.Errorf("%s: Bad %d, %d, want %d, %d", what, err, at, bad, place)
	}
	if err := s.Over(); err != over {
		t.Errorf("%s: Over %d, want %d", what, err, over)
	}
}

// silent reads in all ways from a strip that has an error, or is nil.
func silent(t *testing.T, what string, s *quill.Strip) {
	t.Helper()
	if n := s.Number(); n != 0 {
		t.Errorf("%s: Number %d", what, n)
	}
	if n := s.Signed(); n != 0 {
		t.Errorf("%s: Signed %d", what, n)
	}
	if x := s.Text(math.MaxInt); x != "" {
		t.Errorf("%s: Text %q", what, x)
	}
	if c := s.One(); c != 0 {
		t.Errorf("%s: One %d", what, c)
	}
}

// refused reads what must not be readable, behind four bytes that are, and
// looks whether the error stays, with its place.
func refused(t *testing.T, what, in string, want api.Errno, read func(s *quill.Strip) bool) {
	t.Helper()
	s := quill.Unroll([]byte("\x01+\x02\x05" + in))
	if s.Number() != 1 || s.Signed() != 2 || s.One() != 5 {
		t.Fatal("the bytes ahead are not read")
	}
	if !read(s) {
		t.Errorf("%s of %x: not the zero value", what, in)
	}
	stands(t, what, s, 4, len(in), want, want)
	silent(t, what, s)
	stands(t, what+", later", s, 4, len(in), want, want)
}

func zeroNumber(s *quill.Strip) bool { return s.Number() == 0 }
func zeroSigned(s *quill.Strip) bool { return s.Signed() == 0 }
func zeroOne(s *quill.Strip) bool    { return s.One() == 0 }

// P1.3
func TestUnrollBegins(t *testing.T) {
	stands(t, "nil", quill.Unroll(nil), 0, 0, api.OK, api.OK)
	stands(t, "empty", quill.Unroll([]byte{}), 0, 0, api.OK, api.OK)
	stands(t, "abc", quill.Unroll([]byte("abc")), 0, 3, api.OK, api.ErrTail)
}

// P1.3
func TestUnrollTakesTheBytesAsTheyAre(t *testing.T) {
	p := []byte("\x05\x02ab+\x07")
	s := quill.Unroll(p)
	other := quill.Unroll(p)
	clear(p)
	if s.Number() != 5 || s.Text(2) != "ab" || s.Signed() != 7 || s.Over() != api.OK {
		t.Error("bytes that were changed later are read")
	}
	stands(t, "another strip of them", other, 0, 6, api.OK, api.ErrTail)
}

// P1.3: nothing is read from behind the end, nor written to p.
func TestUnrollKeepsOutOfSpareRoom(t *testing.T) {
	room := []byte("\x81\x02\x03")
	s := quill.Unroll(room[:1])
	s.Number()
	stands(t, "cut", s, 0, 1, api.ErrShort, api.ErrShort)
	same(t, "room", room, "\x81\x02\x03")
}

// P1.4
func TestNumberIsRead(t *testing.T) {
	for _, w := range written {
		s := quill.Unroll([]byte(w.b + "\x80"))
		if n := s.Number(); n != w.n {
			t.Errorf("%x: %d, want %d", w.b, n, w.n)
		}
		stands(t, "number", s, len(w.b), 1, api.OK, api.ErrTail)
	}
}

// P1.4
func TestSignedIsRead(t *testing.T) {
	for _, w := range writtenSigned {
		s := quill.Unroll([]byte(w.b + "\x80"))
		if n := s.Signed(); n != w.n {
			t.Errorf("%x: %d, want %d", w.b, n, w.n)
		}
		stands(t, "signed", s, len(w.b), 1, api.OK, api.ErrTail)
	}
}

// P1.4
func TestTextIsRead(t *testing.T) {
	for text, b := range writtenTexts() {
		for _, most := range []int{len(text), len(text) + 1, math.MaxInt} {
			s := quill.Unroll([]byte(b + "\x80"))
			if x := s.Text(most); x != text {
				t.Errorf("%.20x: %.20q", b, x)
			}
			stands(t, "text", s, len(b), 1, api.OK, api.ErrTail)
		}
	}
}

// P1.4
func TestOneIsRead(t *testing.T) {
	for c := range 256 {
		s := quill.Unroll([]byte{byte(c), 1})
		if got := s.One(); got != byte(c) {
			t.Errorf("%d, want %d", got, c)
		}
		stands(t, "one", s, 1, 1, api.OK, api.ErrTail)
	}
	refused(t, "One", "", api.ErrShort, zeroOne)
}

// P1.4: byte by byte, as soon as it is sure.
func TestNumberIsRefused(t *testing.T) {
	far := strings.Repeat("\x80", 8)
	for in, want := range map[string]api.Errno{
		"":                                     api.ErrShort,
		"\x81":                                 api.ErrShort,
		"\xff":                                 api.ErrShort,
		"\xff\xff\xff":                         api.ErrShort,
		"\x80":                                 api.ErrForm,
		"\x80\x01":                             api.ErrForm,
		"\x80\x80":                             api.ErrForm,
		"\x80" + far + far:                     api.ErrForm,
		"\x81" + far:                           api.ErrShort, // may still come to 2^63
		"\x81\xff\xff\xff\xff\xff\xff":         api.ErrShort,
		"\x81\xff\xff\xff\xff\xff\xff\xff\xff": api.ErrShort, // may still come to 2^64 - 1
		"\x82" + far + "\x00":                  api.ErrWide,  // 2^64
		"\x82" + far:                           api.ErrWide,  // a digit more is sure
		"\x81" + far + "\x80":                  api.ErrWide,
		"\x81" + far + "\x80\x00":              api.ErrWide,
		"\x83\xff\xff\xff\xff\xff\xff\xff\xff\x7f": api.ErrWide,
		"\xff\xff\xff\xff\xff\xff\xff\xff\xff":     api.ErrWide,
		"\xff\xff\xff\xff\xff\xff\xff\xff\xff\x00": api.ErrWide,
		"\x81" + far + far + far + "\x00":          api.ErrWide,
	} {
		refused(t, "Number", in, want, zeroNumber)
	}
}

// P1.4
func TestSignedIsRefused(t *testing.T) {
	far := strings.Repeat("\x80", 8)
	for in, want := range map[string]api.Errno{
		"":                     api.ErrShort,
		"+":                    api.ErrShort,
		"-":                    api.ErrShort,
		"-\x81":                api.ErrShort,
		"\x00":                 api.ErrForm,
		"\x2c\x01":             api.ErrForm,
		"\x2a\x01":             api.ErrForm,
		"\x2e\x01":             api.ErrForm,
		"\x80\x01":             api.ErrForm,
		"\xab\x01":             api.ErrForm,
		"+\x80":                api.ErrForm,
		"-\x80\x01":            api.ErrForm,
		"-\x00":                api.ErrForm,
		"+\x81" + far + "\x00": api.ErrWide, // 2^63
		"-\x81" + far + "\x01": api.ErrWide, // -2^63 - 1
		"+\x82" + far + "\x00": api.ErrWide,
		"-\x82" + far + "\x00": api.ErrWide,
		"+\x82" + far:          api.ErrWide,
		"+\x81" + far:          api.ErrShort, // its number's error
		"+\x81\xff\xff\xff":    api.ErrShort,
		"+\x81\xff\xff\xff\xff\xff\xff\xff\xff\x7f": api.ErrWide,
		"-\x81\xff\xff\xff\xff\xff\xff\xff\xff\x7f": api.ErrWide,
	} {
		refused(t, "Signed", in, want, zeroSigned)
	}
}

// P1.4
func TestTextIsRefused(t *testing.T) {
	far := strings.Repeat("\x80", 8)
	for _, c := range []struct {
		in   string
		most int
		want api.Errno
	}{
		{"", 5, api.ErrShort},
		{"\x81", 0, api.ErrShort},
		{"\x80\x01a", 0, api.ErrForm},
		{"\x82" + far + "\x00", 0, api.ErrWide},
		{"\x03ab", 3, api.ErrShort},
		{"\x03ab", 2, api.ErrLong}, // named ahead of ErrShort
		{"\x03abc", 2, api.ErrLong},
		{"\x01a", 0, api.ErrLong},
		{"\x01a", -1, api.ErrLong},
		{"\x01a", math.MinInt, api.ErrLong},
		{"\x01", -1, api.ErrLong},
		{"\x01", math.MaxInt, api.ErrShort},
		{"\x81\x00" + strings.Repeat("x", 127), 128, api.ErrShort},
		{"\x81\x00" + strings.Repeat("x", 128), 127, api.ErrLong},
		{"\xff\xff\xff\xff\xff\xff\xff\xff\x7fabc", math.MaxInt, api.ErrShort},
		{"\x81" + far + "\x00abc", math.MaxInt, api.ErrLong},
		{"\x81\xff\xff\xff\xff\xff\xff\xff\xff\x7fabc", math.MaxInt, api.ErrLong},
		{"\x81\xff\xff\xff\xff\xff\xff\xff\xff\x7fabc", -1, api.ErrLong},
	} {
		refused(t, "Text", c.in, c.want, func(s *quill.Strip) bool { return s.Text(c.most) == "" })
	}
}

// P1.4: a most below 0 is 0, and the empty text is read.
func TestEmptyTextIsReadAtEachMost(t *testing.T) {
	for _, most := range []int{math.MinInt, -1, 0, 1, math.MaxInt} {
		s := quill.Unroll([]byte("\x00"))
		if x := s.Text(most); x != "" {
			t.Errorf("most %d: %q", most, x)
		}
		stands(t, "empty text", s, 1, 0, api.OK, api.OK)
	}
}

// P1.4: of two faults the one that was met first is told.
func TestFirstErrorStays(t *testing.T) {
	s := quill.Unroll([]byte("\x05\x03abc\x07"))
	s.Number()
	s.Text(2)
	stands(t, "too long", s, 1, 5, api.ErrLong, api.ErrLong)
	if x := s.Text(3); x != "" {
		t.Errorf("%q is read behind an error", x)
	}
	if n := s.Signed(); n != 0 {
		t.Errorf("%d is read behind an error", n)
	}
	stands(t, "too long, later", s, 1, 5, api.ErrLong, api.ErrLong)
}

// P1.5
func TestPlacesThroughAStrip(t *testing.T) {
	s := quill.Unroll([]byte("\x82\x2c-\x01\x02ab\xff"))
	stands(t, "begin", s, 0, 8, api.OK, api.ErrTail)
	s.Number()
	stands(t, "number", s, 2, 6, api.OK, api.ErrTail)
	s.Signed()
	stands(t, "signed", s, 4, 4, api.OK, api.ErrTail)
	s.Text(2)
	stands(t, "text", s, 7, 1, api.OK, api.ErrTail)
	s.One()
	stands(t, "one", s, 8, 0, api.OK, api.OK)
	s.One()
	stands(t, "behind the end", s, 8, 0, api.ErrShort, api.ErrShort)
}

// P1.5: ErrTail is no error of the strip.
func TestOverIsNoErrorOfTheStrip(t *testing.T) {
	s := quill.Unroll([]byte("\x01\x02"))
	if s.Over() != api.ErrTail || s.Number() != 1 || s.Over() != api.ErrTail || s.Number() != 2 {
		t.Error("the strip stands still behind Over")
	}
	stands(t, "end", s, 2, 0, api.OK, api.OK)
}

// P1.5: the place of an error at 0 is told as 0, with the error.
func TestErrorAtTheBegin(t *testing.T) {
	s := quill.Unroll([]byte("\x80\x01"))
	s.Number()
	stands(t, "begin", s, 0, 2, api.ErrForm, api.ErrForm)
}

// P1.5
func TestNilStrip(t *testing.T) {
	var s *quill.Strip
	silent(t, "nil", s)
	stands(t, "nil", s, 0, 0, api.OK, api.OK)
	if s.Text(-1) != "" {
		t.Error("a nil strip has a text")
	}
}
