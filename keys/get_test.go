package keys_test

import (
	"math/rand"
	"slices"
	"strings"
	"testing"

	"klaxon/api"
	"klaxon/keys"
)

// isList asks that s is the key of just these parts.
func isList(t *testing.T, s string, want []api.Part) {
	t.Helper()
	if l, err := keys.Get(s); err != api.OK || !slices.Equal(l, want) {
		t.Fatalf("Get(%x): %s, error %d, want %s", s, show(l), err, show(want))
	}
}

// isNoKey asks that s is refused.
func isNoKey(t *testing.T, what, s string) {
	t.Helper()
	if l, err := keys.Get(s); len(l) > 0 || err != api.ErrParts {
		t.Errorf("%s: Get(%x): %s, error %d", what, s, show(l), err)
	}
}

// P7.3
func TestWrittenKeysAreRead(t *testing.T) {
	isList(t, "", nil)
	for _, w := range writtenInts {
		isList(t, w.b, []api.Part{keys.Int(w.n)})
		isList(t, w.b+w.b, []api.Part{keys.Int(w.n), keys.Int(w.n)})
	}
	for _, w := range writtenTexts {
		isList(t, w.b, []api.Part{keys.Text(w.s)})
		isList(t, "\x80"+w.b+"\x7f", []api.Part{keys.Int(0), keys.Text(w.s), keys.Int(-1)})
	}
	isList(t, strings.Repeat("\x80", api.MaxParts), many(api.MaxParts))
}

// P7.3: numbers that no Put writes.
func TestNoNumbers(t *testing.T) {
	zeros, ones := strings.Repeat("\x00", 8), strings.Repeat("\xff", 8)
	for size := 1; size <= 8; size++ {
		head, minus := string([]byte{byte(0x80 + size)}), string([]byte{byte(0x7f - size)})
		isNoKey(t, "a first byte that is 0", head+zeros[:size])
		isNoKey(t, "a first byte that is 0", head+("\x00" + ones)[:size])
		isNoKey(t, "a first byte that is ff, below 0", minus+ones[:size])
		isNoKey(t, "a first byte that is ff, below 0", minus+("\xff" + zeros)[:size])
		for cut := range size {
			isNoKey(t, "cut off", head+ones[:cut])
			isNoKey(t, "cut off, below 0", minus+zeros[:cut])
			isNoKey(t, "cut off behind a part", "\x80"+head+ones[:cut])
			isNoKey(t, "cut off behind a part, below 0", "\x7f"+minus+zeros[:cut])
		}
	}
	isNoKey(t, "2^63", "\x88\x80"+zeros[:7])
	isNoKey(t, "2^64 - 1", "\x88"+ones)
	isNoKey(t, "-2^63 - 1", "\x77\x7f"+ones[:7])
	isNoKey(t, "-2^64", "\x77"+zeros)
	isNoKey(t, "nine bytes", "\x89\x01"+zeros)
	isNoKey(t, "nine bytes, the first one 0", "\x89\x00\x01"+zeros[:7])
	isNoKey(t, "nine bytes, below 0", "\x76\xfe"+ones)
	isNoKey(t, "nine bytes, below 0, the first one ff", "\x76\xff\xfe"+ones[:7])
}

// P7.3: a first byte that begins no part, whatever follows.
func TestNoFirstBytes(t *testing.T) {
	text := "\x00\x00\x00\x00\x00\x00\x00\x00\x00"
	for c := range 256 {
		head := string([]byte{byte(c)})
		if c >= 0x77 && c <= 0x88 || c == 0xa0 {
			continue
		}
		for _, rest := range []string{"", "\x80", "\x01\x02", text, "a" + text[:7] + "\x01", strings.Repeat("\x01", 200)} {
			isNoKey(t, "a first byte", head+rest)
			isNoKey(t, "a second part's first byte", "\x80"+head+rest)
		}
	}
}

// P7.3: texts that no Put writes.
func TestNoTexts(t *testing.T) {
	whole := "\xa0abcdefgh\x09"
	for _, ahead := range []string{"\xa0", whole, whole + "abcdefgh\x09", "\x80\xa0", "\x7f" + whole} {
		for cut := range 9 {
			isNoKey(t, "cut off within a group", ahead+"abcdefgh"[:cut])
			isNoKey(t, "cut off within a group of bytes 0", ahead+"\x00\x00\x00\x00\x00\x00\x00\x00"[:cut])
		}
		for last := 10; last < 256; last++ {
			isNoKey(t, "a last byte above 09", ahead+"abcdefgh"+string([]byte{byte(last)}))
			isNoKey(t, "a last byte above 09, and a group", ahead+"abcdefgh"+string([]byte{byte(last)})+"a\x00\x00\x00\x00\x00\x00\x00\x01")
		}
		for last := range 8 {
			for place := last; place < 8; place++ {
				g := []byte("abcdefgh\x00")
				clear(g[last:])
				g[place], g[8] = 1, byte(last)
				isNoKey(t, "a group that is not filled up with bytes 0", ahead+string(g))
			}
		}
	}
	isNoKey(t, "09, and no group", whole)
	isNoKey(t, "09, and a number", whole+"\x80")
	isNoKey(t, "09, and a text's first byte", whole+"\xa0a\x00\x00\x00\x00\x00\x00\x00\x01")
	for n := range 34 {
		groups := strings.Repeat("abcdefgh\x09", n+1)
		isNoKey(t, "a last byte 0 behind another group", "\xa0"+groups+"\x00\x00\x00\x00\x00\x00\x00\x00\x00")
	}
}

// P7.3: what is more than Put takes, though it is written as Put writes it.
func TestTooMuch(t *testing.T) {
	for _, length := range []int{api.MaxPart + 1, api.MaxPart + 7, api.MaxPart + 8, api.MaxPart + 9, api.MaxPart + 16, 10000} {
		isNoKey(t, "a text", saidText(strings.Repeat("x", length)))
		isNoKey(t, "a text behind a part", "\x80"+saidText(strings.Repeat("\x00", length)))
	}
	for _, n := range []int{api.MaxParts + 1, api.MaxParts + 2, 2 * api.MaxParts, 1 << 20} {
		isNoKey(t, "parts", strings.Repeat("\x80", n))
	}
	isNoKey(t, "texts", strings.Repeat(saidText(""), api.MaxParts+1))
	isNoKey(t, "MaxParts parts, and a byte", strings.Repeat("\x80", api.MaxParts)+"\xff")
	isNoKey(t, "MaxParts parts, and half a part", strings.Repeat("\x80", api.MaxParts)+"\xa0")
}

// oneWay asks that s is the key of what Get tells, or of nothing.
func oneWay(t *testing.T, s string) {
	t.Helper()
	l, err := keys.Get(s)
	switch {
	case err == api.OK && (len(l) > api.MaxParts || said(l) != s):
		t.Fatalf("%x is read as %s", s, show(l))
	case err != api.OK && (err != api.ErrParts || len(l) > 0):
		t.Fatalf("%x: %s, error %d", s, show(l), err)
	}
}

// P7.3: all bytes that are no more than three.
func TestShortBytes(t *testing.T) {
	for a := range 256 {
		oneWay(t, string([]byte{byte(a)}))
		for b := range 256 {
			oneWay(t, string([]byte{byte(a), byte(b)}))
			for c := range 256 {
				oneWay(t, string([]byte{byte(a), byte(b), byte(c)}))
			}
		}
	}
}

// P7.3: keys of which some bytes are others, or missing, or more.
func TestSpoiltKeys(t *testing.T) {
	r := rand.New(rand.NewSource(4))
	odd := []byte{0x00, 0x01, 0x08, 0x09, 0x0a, 0x77, 0x7e, 0x7f, 0x80, 0x81, 0x88, 0xa0, 0xff}
	for range 50000 {
		b := []byte(said(anyList(r)))
		for range 1 + r.Intn(3) {
			at := r.Intn(len(b) + 1)
			switch c := odd[r.Intn(len(odd))]; {
			case r.Intn(4) == 0:
				b = slices.Insert(b, at, c)
			case at == len(b):
				b = b[:r.Intn(at+1)]
			case r.Intn(4) == 0:
				b = slices.Delete(b, at, at+1)
			default:
				b[at] = c
			}
		}
		oneWay(t, string(b))
	}
}

// P7.3, rule 3: what is answered is new each time.
func TestAnswersAreNew(t *testing.T) {
	want := []api.Part{keys.Int(1), keys.Text("abcdefghi"), keys.Int(-1)}
	s := put(t, want...)
	first, _ := keys.Get(s)
	first = first[:cap(first)]
	for i := range first {
		first[i] = keys.Text("spoilt")
	}
	isList(t, s, want)
}
