package quill_test

import (
	"bytes"
	"hash/crc32"
	"math"
	"math/rand"
	"slices"
	"strings"
	"testing"

	"klaxon/quill"
)

// written has numbers around each further byte, with their bytes written out.
var written = []struct {
	n uint64
	b string
}{
	{0, "\x00"},
	{1, "\x01"},
	{127, "\x7f"},
	{128, "\x81\x00"},
	{129, "\x81\x01"},
	{300, "\x82\x2c"},
	{1<<14 - 1, "\xff\x7f"},
	{1 << 14, "\x81\x80\x00"},
	{1<<21 - 1, "\xff\xff\x7f"},
	{1 << 21, "\x81\x80\x80\x00"},
	{1<<28 - 1, "\xff\xff\xff\x7f"},
	{1 << 28, "\x81\x80\x80\x80\x00"},
	{1<<35 - 1, "\xff\xff\xff\xff\x7f"},
	{1 << 35, "\x81\x80\x80\x80\x80\x00"},
	{1<<42 - 1, "\xff\xff\xff\xff\xff\x7f"},
	{1 << 42, "\x81\x80\x80\x80\x80\x80\x00"},
	{1<<49 - 1, "\xff\xff\xff\xff\xff\xff\x7f"},
	{1 << 49, "\x81\x80\x80\x80\x80\x80\x80\x00"},
	{1<<56 - 1, "\xff\xff\xff\xff\xff\xff\xff\x7f"},
	{1 << 56, "\x81\x80\x80\x80\x80\x80\x80\x80\x00"},
	{1<<63 - 1, "\xff\xff\xff\xff\xff\xff\xff\xff\x7f"},
	{1 << 63, "\x81\x80\x80\x80\x80\x80\x80\x80\x80\x00"},
	{math.MaxUint64 - 1, "\x81\xff\xff\xff\xff\xff\xff\xff\xff\x7e"},
	{math.MaxUint64, "\x81\xff\xff\xff\xff\xff\xff\xff\xff\x7f"},
}

var writtenSigned = []struct {
	n int64
	b string
}{
	{0, "+\x00"},
	{1, "+\x01"},
	{-1, "-\x01"},
	{127, "+\x7f"},
	{-127, "-\x7f"},
	{128, "+\x81\x00"},
	{-128, "-\x81\x00"},
	{-300, "-\x82\x2c"},
	{math.MaxInt64, "+\xff\xff\xff\xff\xff\xff\xff\xff\x7f"},
	{-math.MaxInt64, "-\xff\xff\xff\xff\xff\xff\xff\xff\x7f"},
	{math.MinInt64, "-\x81\x80\x80\x80\x80\x80\x80\x80\x80\x00"},
}

// writtenTexts has lengths around the first further bytes.
func writtenTexts() map[string]string {
	texts := map[string]string{
		"":             "\x00",
		"a":            "\x01a",
		"\x00\xff\x80": "\x03\x00\xff\x80",
	}
	for head, length := range map[string]int{"\x7f": 127, "\x81\x00": 128, "\xff\x7f": 16383, "\x81\x80\x00": 16384} {
		t := strings.Repeat("x", length)
		texts[t] = head + t
	}
	return texts
}

func same(t *testing.T, what string, got []byte, want string) {
	t.Helper()
	if string(got) != want {
		t.Errorf("%s: %x, want %x", what, got, want)
	}
}

// P1.1
func TestNumberIsWritten(t *testing.T) {
	var all []uint64
	want := "ahead"
	for _, w := range written {
		same(t, "Number", quill.Number(nil, w.n), w.b)
		all = append(all, w.n)
		want += w.b
	}
	same(t, "Number of all", quill.Number([]byte("ahead"), all...), want)
}

// P1.1
func TestSignedIsWritten(t *testing.T) {
	var all []int64
	want := "ahead"
	for _, w := range writtenSigned {
		same(t, "Signed", quill.Signed(nil, w.n), w.b)
		all = append(all, w.n)
		want += w.b
	}
	same(t, "Signed of all", quill.Signed([]byte("ahead"), all...), want)
}

// P1.1
func TestTextIsWritten(t *testing.T) {
	for text, want := range writtenTexts() {
		same(t, "Text", quill.Text(nil, text), want)
		same(t, "Text behind bytes", quill.Text([]byte("ahead"), text), "ahead"+want)
	}
	same(t, "Text of several", quill.Text([]byte{9}, "ab", "", "c"), "\x09\x02ab\x00\x01c")
}

// P1.1
func TestNothingIsWritten(t *testing.T) {
	for _, b := range [][]byte{nil, {}, []byte("ahead")} {
		same(t, "Number", quill.Number(b), string(b))
		same(t, "Signed", quill.Signed(b), string(b))
		same(t, "Text", quill.Text(b), string(b))
	}
}

// P1.1: the bytes of b stay, whatever spare room there is behind them; so do
// the numbers that are handed in.
func TestWritingLeavesItsArguments(t *testing.T) {
	for spare := range 30 {
		room := bytes.Repeat([]byte{0xaa}, 5+spare)
		b := room[:5]
		numbers := []uint64{300, math.MaxUint64}
		ints := []int64{-300, math.MinInt64}
		texts := []string{"ab", "", "cde"}

		same(t, "Number", quill.Number(b, numbers...), "\xaa\xaa\xaa\xaa\xaa\x82\x2c\x81\xff\xff\xff\xff\xff\xff\xff\xff\x7f")
		same(t, "b", b, "\xaa\xaa\xaa\xaa\xaa")
		same(t, "Signed", quill.Signed(b, ints...), "\xaa\xaa\xaa\xaa\xaa-\x82\x2c-\x81\x80\x80\x80\x80\x80\x80\x80\x80\x00")
		same(t, "b", b, "\xaa\xaa\xaa\xaa\xaa")
		same(t, "Text", quill.Text(b, texts...), "\xaa\xaa\xaa\xaa\xaa\x02ab\x00\x03cde")
		same(t, "b", b, "\xaa\xaa\xaa\xaa\xaa")

		if !slices.Equal(numbers, []uint64{300, math.MaxUint64}) || !slices.Equal(ints, []int64{-300, math.MinInt64}) || !slices.Equal(texts, []string{"ab", "", "cde"}) {
			t.Fatalf("spare room %d: the lists have changed", spare)
		}
	}
}

// P1.2
func TestMarkOfKnownBytes(t *testing.T) {
	for text, want := range map[string]uint32{
		"":          0xffffffff,
		"123456789": 0xd2c22f51,
	} {
		if got := quill.Mark([]byte(text)); got != want {
			t.Errorf("Mark of %q: %x, want %x", text, got, want)
		}
	}
	if got := quill.Mark(); got != 0xffffffff {
		t.Errorf("Mark of no list: %x", got)
	}
	if got := quill.Mark(nil, nil); got != 0xffffffff {
		t.Errorf("Mark of nil lists: %x", got)
	}
}

// P1.2: the library's way with the same polynomial turns all bits at the end.
func TestMarkAgainstTheLibrary(t *testing.T) {
	table := crc32.MakeTable(crc32.Koopman)
	r := rand.New(rand.NewSource(1))
	for range 500 {
		p := make([]byte, r.Intn(300))
		r.Read(p)
		kept := bytes.Clone(p)
		want := ^crc32.Checksum(p, table)
		cut := r.Intn(len(p) + 1)
		for _, got := range []uint32{quill.Mark(p), quill.Mark(p[:cut], p[cut:]), quill.Mark(nil, p[:cut], nil, p[cut:], nil)} {
			if got != want {
				t.Fatalf("Mark of %x: %x, want %x", p, got, want)
			}
		}
		if !bytes.Equal(p, kept) {
			t.Fatal("Mark has changed its bytes")
		}
	}
}

// P1.2
func TestMarkHangsOnTheOrderOfLists(t *testing.T) {
	if quill.Mark([]byte("ab"), []byte("c")) == quill.Mark([]byte("c"), []byte("ab")) {
		t.Error("the order of the lists has no part")
	}
	for c := range 256 {
		if got, want := quill.Mark([]byte{byte(c)}), ^crc32.Checksum([]byte{byte(c)}, crc32.MakeTable(crc32.Koopman)); got != want {
			t.Errorf("Mark of %x: %x, want %x", c, got, want)
		}
	}
}
