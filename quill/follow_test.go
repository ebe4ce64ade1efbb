package quill_test

import (
	"bytes"
	"math"
	"math/big"
	"math/rand"
	"testing"

	"klaxon/api"
	"klaxon/quill"
)

// anyNumber has all lengths about as often.
func anyNumber(r *rand.Rand) uint64 { return r.Uint64() >> r.Intn(64) }

func anyText(r *rand.Rand) string {
	p := make([]byte, r.Intn(200))
	r.Read(p)
	return string(p)
}

// P1.6
func TestThereAndBack(t *testing.T) {
	r := rand.New(rand.NewSource(2))
	for range 2000 {
		number, signed, text := anyNumber(r), int64(anyNumber(r)), anyText(r)
		b := quill.Text(quill.Signed(quill.Number(nil, number, ^number), signed, -signed), text, "", text)
		s := quill.Unroll(b)
		if s.Number() != number || s.Number() != ^number {
			t.Fatalf("numbers of %d", number)
		}
		if s.Signed() != signed || s.Signed() != -signed {
			t.Fatalf("ints of %d", signed)
		}
		if s.Text(len(text)) != text || s.Text(0) != "" || s.Text(200) != text {
			t.Fatalf("texts of %q", text)
		}
		stands(t, "end", s, len(b), 0, api.OK, api.OK)
	}
}

// P1.6: at the edges.
func TestThereAndBackAtTheEdges(t *testing.T) {
	for bit := range 64 {
		for _, n := range []uint64{1<<bit - 1, 1 << bit, 1<<bit + 1, math.MaxUint64 - 1<<bit} {
			if s := quill.Unroll(quill.Number(nil, n)); s.Number() != n || s.Over() != api.OK {
				t.Errorf("number %d", n)
			}
			if s := quill.Unroll(quill.Signed(nil, int64(n))); s.Signed() != int64(n) || s.Over() != api.OK {
				t.Errorf("int %d", int64(n))
			}
		}
	}
}

// eachShort calls do with each list of at most 2 bytes, and many of 3, with a
// sign ahead of it or without one.
func eachShort(do func(p []byte)) {
	for _, sign := range []string{"", "+", "-", "*"} {
		do([]byte(sign))
		for a := range 256 {
			do(append([]byte(sign), byte(a)))
			for b := range 256 {
				do(append([]byte(sign), byte(a), byte(b)))
				for _, c := range []byte{0x00, 0x7f, 0x80, 0xff} {
					do(append([]byte(sign), byte(a), byte(b), c))
				}
			}
		}
	}
}

// P1.7
func TestOneWay(t *testing.T) {
	oneWay := func(p []byte) {
		s := quill.Unroll(p)
		n := s.Number()
		if err, _ := s.Bad(); err == api.OK && !bytes.Equal(quill.Number(nil, n), p[:s.Where()]) {
			t.Errorf("%x is read as the number %d", p, n)
		}
		s = quill.Unroll(p)
		i := s.Signed()
		if err, _ := s.Bad(); err == api.OK && !bytes.Equal(quill.Signed(nil, i), p[:s.Where()]) {
			t.Errorf("%x is read as the int %d", p, i)
		}
	}
	eachShort(oneWay)
	r := rand.New(rand.NewSource(3))
	for range 20000 {
		oneWay(anyDigits(r))
	}
}

// anyDigits is mostly a number, or an int, of up to 12 digits, sometimes
// without its end.
func anyDigits(r *rand.Rand) []byte {
	p := make([]byte, r.Intn(13))
	for i := range p {
		p[i] = []byte{0x80, 0x81, 0x82, 0xff, 0x80 | byte(r.Intn(128))}[r.Intn(5)]
	}
	if r.Intn(4) > 0 {
		p = append(p, byte(r.Intn(128)))
	}
	return append([]byte([]string{"", "+", "-"}[r.Intn(3)]), p...)
}

// P1.7
func TestOrderOfAsManyBytes(t *testing.T) {
	r := rand.New(rand.NewSource(4))
	numbers := make([]uint64, 0, 1000)
	for _, w := range written {
		numbers = append(numbers, w.n)
	}
	for len(numbers) < cap(numbers) {
		numbers = append(numbers, anyNumber(r))
	}
	for _, a := range numbers {
		for _, b := range numbers {
			x, y := quill.Number(nil, a), quill.Number(nil, b)
			if len(x) == len(y) && (a < b) != (bytes.Compare(x, y) < 0) {
				t.Fatalf("%d is %x, %d is %x", a, x, b, y)
			}
		}
	}
}

// told is what the document says of a number, reckoned without a bound.
func told(p []byte) (*big.Int, int, api.Errno) {
	n := new(big.Int)
	limit := new(big.Int).Lsh(big.NewInt(1), 64)
	for i, c := range p {
		if i == 0 && c == 0x80 {
			return nil, 0, api.ErrForm
		}
		n.Add(n.Mul(n, big.NewInt(128)), big.NewInt(int64(c%128)))
		least := n
		if c >= 128 {
			least = new(big.Int).Mul(n, big.NewInt(128))
		}
		if least.Cmp(limit) >= 0 {
			return nil, 0, api.ErrWide
		}
		if c < 128 {
			return n, i + 1, api.OK
		}
	}
	return nil, 0, api.ErrShort
}

// toldSigned is what the document says of an int.
func toldSigned(p []byte) (*big.Int, int, api.Errno) {
	if len(p) == 0 {
		return nil, 0, api.ErrShort
	}
	if p[0] != 0x2b && p[0] != 0x2d {
		return nil, 0, api.ErrForm
	}
	n, size, err := told(p[1:])
	if err != api.OK {
		return nil, 0, err
	}
	if p[0] == 0x2d {
		if n.Sign() == 0 {
			return nil, 0, api.ErrForm
		}
		n.Neg(n)
	}
	if !n.IsInt64() {
		return nil, 0, api.ErrWide
	}
	return n, size + 1, api.OK
}

// P1.4
func TestReadingAgainstTheDocument(t *testing.T) {
	check := func(p []byte) {
		s := quill.Unroll(p)
		n := s.Number()
		want, size, err := told(p)
		if bad, _ := s.Bad(); bad != err || s.Where() != size || err == api.OK && n != want.Uint64() {
			t.Fatalf("number of %x: %d, %d behind %d bytes", p, n, bad, s.Where())
		}
		s = quill.Unroll(p)
		i := s.Signed()
		want, size, err = toldSigned(p)
		if bad, _ := s.Bad(); bad != err || s.Where() != size || err == api.OK && i != want.Int64() {
			t.Fatalf("int of %x: %d, %d behind %d bytes", p, i, bad, s.Where())
		}
	}
	eachShort(check)
	r := rand.New(rand.NewSource(5))
	for range 50000 {
		check(anyDigits(r))
	}
}

// P1.4, P1.5: whatever is read in whatever order, the place only goes on, and
// not at all behind an error.
func TestAnyReadingOfAnyBytes(t *testing.T) {
	r := rand.New(rand.NewSource(6))
	for range 5000 {
		p := anyBytes(r)
		s := quill.Unroll(p)
		for range 20 {
			at := s.Where()
			err, _ := s.Bad()
			readAny(r, s)
			if s.Where() < at || s.Where()+s.More() != len(p) {
				t.Fatalf("%x: from %d to %d, %d more", p, at, s.Where(), s.More())
			}
			now, place := s.Bad()
			if err != api.OK && (now != err || s.Where() != at) {
				t.Fatalf("%x: the error %d at %d became %d at %d", p, err, at, now, s.Where())
			}
			if now != api.OK && (place != at || s.Where() != at) {
				t.Fatalf("%x: what begins at %d is refused at %d", p, at, place)
			}
		}
	}
}

func anyBytes(r *rand.Rand) []byte {
	p := make([]byte, r.Intn(30))
	for i := range p {
		p[i] = []byte{0, 1, 2, '+', '-', 0x80, 0x81, byte(r.Intn(256))}[r.Intn(8)]
	}
	return p
}

func readAny(r *rand.Rand, s *quill.Strip) {
	switch r.Intn(4) {
	case 0:
		s.Number()
	case 1:
		s.Signed()
	case 2:
		s.Text(r.Intn(40) - 5)
	default:
		s.One()
	}
}
