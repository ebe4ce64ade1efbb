// Package quill is layer 1: it writes numbers and texts as bytes, reads them
// again, and has a mark of bytes. See shared/doc/01-quill.md.
package quill

import (
	"bytes"
	"math"
	"math/bits"

	"klaxon/api"
)

const (
	digitBits = 7
	digitMask = 1<<digitBits - 1
	further   = 1 << digitBits // stands in each byte of a number but the last

	// Digits above this leave no room for another one behind them.
	mostAhead = math.MaxUint64 >> digitBits

	plus  = '+'
	minus = '-'

	markStart      = 0xffffffff
	markPolynomial = 0xeb31d82e
)

// Number is b and behind it each of l as a number (P1.1).
func Number(b []byte, l ...uint64) []byte {
	for _, n := range l {
		b = appendNumber(b, n)
	}
	return b
}

// Signed is b and behind it each of l as a signed number (P1.1).
func Signed(b []byte, l ...int64) []byte {
	for _, n := range l {
		b = appendSigned(b, n)
	}
	return b
}

// Text is b and behind it each of l as a text (P1.1).
func Text(b []byte, l ...string) []byte {
	for _, t := range l {
		b = append(appendNumber(b, uint64(len(t))), t...)
	}
	return b
}

func appendNumber(b []byte, n uint64) []byte {
	for shift := lowBitOfFirstDigit(n); shift > 0; shift -= digitBits {
		b = append(b, byte(n>>shift)|further)
	}
	return append(b, byte(n)&digitMask)
}

// lowBitOfFirstDigit takes 0 as if it were 1, for 0 has a digit too.
func lowBitOfFirstDigit(n uint64) int {
	return (bits.Len64(n|1) - 1) / digitBits * digitBits
}

func appendSigned(b []byte, n int64) []byte {
	if n < 0 {
		// Negated as a uint64, so that -2^63 comes to 2^63.
		return appendNumber(append(b, minus), -uint64(n))
	}
	return appendNumber(append(b, plus), uint64(n))
}

// Mark is a mark of all these bytes, one list behind the other (P1.2).
func Mark(l ...[]byte) uint32 {
	mark := uint32(markStart)
	for _, p := range l {
		for _, c := range p {
			mark = markByte(mark, c)
		}
	}
	return mark
}

func markByte(mark uint32, c byte) uint32 {
	// All bits of c may be added at once: bit k is lowest after k shifts.
	mark ^= uint32(c)
	for range 8 {
		low := mark & 1
		mark >>= 1
		if low == 1 {
			mark ^= markPolynomial
		}
	}
	return mark
}

// Strip is bytes that are read from the front on. Its first error stays, and
// its place with it, so that the place of the error is at.
type Strip struct {
	bytes []byte
	at    int
	err   api.Errno
}

// Unroll is a strip of the bytes of p as they are now (P1.3).
func Unroll(p []byte) *Strip {
	return &Strip{bytes: bytes.Clone(p)}
}

// Number reads a number (P1.4).
func (s *Strip) Number() uint64 { return take(s, readNumber) }

// Signed reads a signed number (P1.4).
func (s *Strip) Signed() int64 { return take(s, readSigned) }

// Text reads a text of at most that many bytes (P1.4).
func (s *Strip) Text(most int) string {
	return take(s, func(p []byte) (string, int, api.Errno) {
		return readText(p, uint64(max(most, 0)))
	})
}

// One reads a byte (P1.4).
func (s *Strip) One() byte { return take(s, readOne) }

// take has read look at what is left; read tells the value and how many bytes
// it takes. After an error the strip does not move any more.
func take[T any](s *Strip, read func(p []byte) (T, int, api.Errno)) T {
	var none T
	if s == nil || s.err != api.OK {
		return none
	}
	v, size, err := read(s.bytes[s.at:])
	if err != api.OK {
		s.err = err
		return none
	}
	s.at += size
	return v
}

// readNumber judges byte by byte: a number that cannot come out any more is
// refused even where the bytes end behind it.
func readNumber(p []byte) (uint64, int, api.Errno) {
	var n uint64
	for i, c := range p {
		if i == 0 && c == further {
			return 0, 0, api.ErrForm
		}
		n = n<<digitBits | uint64(c&digitMask)
		if c < further {
			return n, i + 1, api.OK
		}
		if n > mostAhead {
			return 0, 0, api.ErrWide
		}
	}
	return 0, 0, api.ErrShort
}

func readSigned(p []byte) (int64, int, api.Errno) {
	sign, _, err := readOne(p)
	if err != api.OK {
		return 0, 0, err
	}
	if sign != plus && sign != minus {
		return 0, 0, api.ErrForm
	}
	n, size, err := readNumber(p[1:])
	if err != api.OK {
		return 0, 0, err
	}
	v, err := withSign(sign, n)
	return v, 1 + size, err
}

func withSign(sign byte, n uint64) (int64, api.Errno) {
	switch {
	case sign == minus && n == 0:
		return 0, api.ErrForm
	case sign == minus && n > 1<<63, sign == plus && n > math.MaxInt64:
		return 0, api.ErrWide
	case sign == minus:
		// Negated as a uint64, so that 2^63 comes to -2^63.
		return int64(-n), api.OK
	}
	return int64(n), api.OK
}

func readText(p []byte, most uint64) (string, int, api.Errno) {
	length, size, err := readNumber(p)
	if err != api.OK {
		return "", 0, err
	}
	if length > most {
		return "", 0, api.ErrLong
	}
	rest := p[size:]
	// Held against each other as uint64: a length may be above every int.
	if length > uint64(len(rest)) {
		return "", 0, api.ErrShort
	}
	return string(rest[:length]), size + int(length), api.OK
}

func readOne(p []byte) (byte, int, api.Errno) {
	if len(p) == 0 {
		return 0, 0, api.ErrShort
	}
	return p[0], 1, api.OK
}

// Where is the place of the strip (P1.5).
func (s *Strip) Where() int {
	if s == nil {
		return 0
	}
	return s.at
}

// More is how many bytes stand from the place on (P1.5).
func (s *Strip) More() int {
	if s == nil {
		return 0
	}
	return len(s.bytes) - s.at
}

// Bad is the strip's error and its place; OK and 0 (P1.5).
func (s *Strip) Bad() (api.Errno, int) {
	if s == nil || s.err == api.OK {
		return api.OK, 0
	}
	return s.err, s.at
}

// Over is the strip's error; or ErrTail, if bytes are left (P1.5).
func (s *Strip) Over() api.Errno {
	if err, _ := s.Bad(); err != api.OK {
		return err
	}
	if s.More() > 0 {
		return api.ErrTail
	}
	return api.OK
}
