package meta_test

import (
	"bytes"
	"encoding/binary"
	"encoding/hex"
	"math"
	"slices"
	"strings"
	"testing"

	"klaxon/api"
	"klaxon/meta"
	"klaxon/quill"
)

func isErr(t *testing.T, what string, got, want api.Errno) {
	t.Helper()
	if got != want {
		t.Errorf("%s: error %d, want %d", what, got, want)
	}
}

// isMeta holds that Get finds m in b.
func isMeta(t *testing.T, b []byte, m api.Meta) {
	t.Helper()
	if x, err := meta.Get(b); err != api.OK || x != m {
		t.Errorf("Get(%x): %v, error %d, want %v", b, x, err, m)
	}
}

// noMeta holds that Get refuses b, with the zero Meta beside it.
func noMeta(t *testing.T, what string, b []byte) {
	t.Helper()
	if x, err := meta.Get(b); err != api.ErrMeta || x != (api.Meta{}) {
		t.Errorf("Get of %s (%x): %v, error %d", what, b, x, err)
	}
}

// forged is the bytes of these numbers with a right sum, and again behind it,
// whatever they are.
func forged(seq uint64, root uint32, keys uint64, depth uint32, again uint64) []byte {
	b := binary.BigEndian.AppendUint64(nil, seq)
	b = binary.BigEndian.AppendUint32(b, root)
	b = binary.BigEndian.AppendUint64(b, keys)
	b = binary.BigEndian.AppendUint32(b, depth)
	b = binary.BigEndian.AppendUint32(b, quill.Mark(b))
	return binary.BigEndian.AppendUint64(b, again)
}

// P4.1: byte for byte, also of numbers that no meta has.
func TestPut(t *testing.T) {
	for _, c := range []struct {
		m    api.Meta
		want string
	}{
		{api.Meta{Seq: 7, Root: 3, Keys: 9, Depth: 2}, "0000000000000007 00000003 0000000000000009 00000002 dd56f96c 0000000000000007"},
		{api.Meta{Seq: 1}, "0000000000000001 00000000 0000000000000000 00000000 440f6ae3 0000000000000001"},
		{api.Meta{}, "0000000000000000 00000000 0000000000000000 00000000 2239ebbb 0000000000000000"},
		{api.Meta{Seq: math.MaxUint64, Root: 16384, Keys: 1<<31 - 1, Depth: 64}, "ffffffffffffffff 00004000 000000007fffffff 00000040 9d232cb8 ffffffffffffffff"},
		{api.Meta{Seq: 0x0102030405060708, Root: 0x090a, Keys: 0x0b0c0d0e, Depth: 15}, "0102030405060708 0000090a 000000000b0c0d0e 0000000f 0df8e25f 0102030405060708"},
		{api.Meta{Seq: 1, Root: 16385, Keys: 1 << 31, Depth: 65}, "0000000000000001 00004001 0000000080000000 00000041 deffda2f 0000000000000001"},
	} {
		isPut(t, c.m, c.want)
	}
}

// P4.1: of numbers that are too great, or below 0, what is above is lost.
func TestPutOfWhatIsAbove(t *testing.T) {
	for _, c := range []struct {
		m    api.Meta
		want string
	}{
		{api.Meta{Seq: 1, Root: -1, Keys: -1, Depth: -1}, "0000000000000001 ffffffff ffffffffffffffff ffffffff df1742ff 0000000000000001"},
		{api.Meta{Seq: 2, Root: 1<<32 + 5, Keys: 1<<40 + 6, Depth: 1<<33 + 7}, "0000000000000002 00000005 0000010000000006 00000007 f18e9b38 0000000000000002"},
		{api.Meta{Seq: 3, Root: math.MinInt, Keys: math.MinInt, Depth: math.MinInt}, "0000000000000003 00000000 8000000000000000 00000000 0d4ec79b 0000000000000003"},
		{api.Meta{Seq: 4, Root: math.MaxInt, Keys: math.MaxInt, Depth: math.MaxInt}, "0000000000000004 ffffffff 7fffffffffffffff ffffffff 72b4d952 0000000000000004"},
	} {
		isPut(t, c.m, c.want)
	}
}

func isPut(t *testing.T, m api.Meta, want string) {
	t.Helper()
	b := meta.Put(m)
	told, err := hex.DecodeString(strings.ReplaceAll(want, " ", ""))
	if err != nil || len(b) != api.MetaLen || !bytes.Equal(b, told) {
		t.Errorf("Put(%v): %x, want %x", m, b, told)
	}
}

// P4.2: each number from its least to its greatest.
func TestGet(t *testing.T) {
	for _, seq := range []uint64{1, 2, 255, 256, 1 << 31, 1 << 32, 1 << 63, math.MaxUint64 - 1, math.MaxUint64} {
		for _, root := range []int{0, 1, 2, 255, 256, 16383, 16384} {
			for _, keys := range []int{0, 1, 65536, 1<<31 - 2, 1<<31 - 1} {
				for _, depth := range []int{0, 1, 63, 64} {
					m := api.Meta{Seq: seq, Root: root, Keys: keys, Depth: depth}
					isMeta(t, forged(seq, uint32(root), uint64(keys), uint32(depth), seq), m)
					isMeta(t, meta.Put(m), m)
				}
			}
		}
	}
}

// P4.2: one number of them is not what it may be, though all else is right.
func TestGetOfNumbersOutside(t *testing.T) {
	noMeta(t, "Seq 0", forged(0, 0, 0, 0, 0))
	noMeta(t, "Seq 0", forged(0, 3, 9, 2, 0))
	for _, root := range []uint32{16385, 16386, 32768, 65536, 1<<24 + 1, 1 << 31, 1<<31 + 1, math.MaxUint32 - 1, math.MaxUint32} {
		noMeta(t, "a Root", forged(7, root, 9, 2, 7))
	}
	for _, keys := range []uint64{1 << 31, 1<<31 + 1, 1<<32 - 1, 1 << 32, 1<<32 + 9, 1 << 62, math.MaxInt64, 1 << 63, 1<<63 + 9, math.MaxUint64} {
		noMeta(t, "Keys", forged(7, 3, keys, 2, 7))
	}
	for _, depth := range []uint32{65, 66, 128, 256, 1<<16 + 2, 1<<24 + 2, 1 << 31, 1<<31 + 2, math.MaxUint32} {
		noMeta(t, "a Depth", forged(7, 3, 9, depth, 7))
	}
	isMeta(t, forged(7, 3, 9, 2, 7), api.Meta{Seq: 7, Root: 3, Keys: 9, Depth: 2})
}

// P4.2: two Seqs that are not the same, in whatever bit.
func TestGetOfTwoSeqs(t *testing.T) {
	for _, seq := range []uint64{1, 7, 256, 1 << 40, math.MaxUint64} {
		for bit := range 64 {
			noMeta(t, "two Seqs", forged(seq, 3, 9, 2, seq^1<<bit))
			noMeta(t, "two Seqs", forged(seq^1<<bit, 3, 9, 2, seq))
		}
		for _, again := range []uint64{0, seq - 1, seq + 1, seq - 2, seq + 2, ^seq} {
			noMeta(t, "two Seqs", forged(seq, 3, 9, 2, again))
		}
	}
	noMeta(t, "a first Seq 0", forged(0, 3, 9, 2, 7))
	noMeta(t, "a second Seq 0", forged(7, 3, 9, 2, 0))
}

// P4.2: sums that are not right, and bytes whose sum is another one.
func TestGetOfWrongSums(t *testing.T) {
	for _, m := range []api.Meta{{Seq: 1}, {Seq: 7, Root: 3, Keys: 9, Depth: 2}, {Seq: math.MaxUint64, Root: 16384, Keys: 1<<31 - 1, Depth: 64}} {
		b := meta.Put(m)
		for bit := range api.MetaLen * 8 {
			turned := slices.Clone(b)
			turned[bit/8] ^= 1 << (bit % 8)
			noMeta(t, "a meta with a bit turned", turned)
		}
		noSum := slices.Clone(b)
		clear(noSum[24:28])
		noMeta(t, "a meta without a sum", noSum)
		lowestFirst := slices.Clone(b)
		slices.Reverse(lowestFirst[24:28])
		noMeta(t, "a sum with its lowest byte first", lowestFirst)
		for bit := range 64 { // in both Seqs at once
			turned := slices.Clone(b)
			turned[bit/8] ^= 1 << (bit % 8)
			turned[28+bit/8] ^= 1 << (bit % 8)
			noMeta(t, "another Seq", turned)
		}
	}
}

// P4.2: fewer than MetaLen bytes are none.
func TestGetOfFewBytes(t *testing.T) {
	noMeta(t, "nil", nil)
	for _, m := range []api.Meta{{Seq: 7, Root: 3, Keys: 9, Depth: 2}, {Seq: 256}, {Seq: 1 << 56}} {
		b := meta.Put(m)
		for n := range api.MetaLen {
			noMeta(t, "a part", b[:n])
			noMeta(t, "a part", b[:n:n])
			if n > 0 {
				noMeta(t, "a meta less its first bytes", b[n:])
			}
		}
		isMeta(t, b, m)
	}
}

// P4.2: more than MetaLen bytes, of which all others are 0, or one is not.
func TestGetOfMoreBytes(t *testing.T) {
	m := api.Meta{Seq: 7, Root: 3, Keys: 9, Depth: 2}
	for _, size := range []int{36, 37, 38, 64, 65, 512, 1024, 8192, 100000} {
		b := append(meta.Put(m), make([]byte, size-36)...)
		isMeta(t, b, m)
		for _, at := range []int{36, 37, 44, 63, 64, 72, size / 2, size - 2, size - 1} {
			if at < 36 || at >= size {
				continue
			}
			for _, c := range []byte{1, ' ', 128, 255} {
				b[at] = c
				noMeta(t, "a byte behind it", b)
			}
			b[at] = 0
		}
		isMeta(t, b, m)
	}
	noMeta(t, "two metas", append(meta.Put(m), meta.Put(m)...))
	noMeta(t, "a meta behind a byte 0", append([]byte{0}, meta.Put(m)...))
}

// P4.2: bytes that are all alike, the bytes 0 of a new disk among them.
func TestGetOfBytesAlike(t *testing.T) {
	for _, size := range []int{0, 1, 35, 36, 37, 64, 1024} {
		for c := range 256 {
			noMeta(t, "bytes alike", bytes.Repeat([]byte{byte(c)}, size))
		}
	}
}

// P4.1, P4.2: what is answered is new each time, spare room too, and what is
// handed in is not changed.
func TestBytesAreNobodys(t *testing.T) {
	m := api.Meta{Seq: 7, Root: 3, Keys: 9, Depth: 2}
	a, b := meta.Put(m), meta.Put(m)
	a = a[:cap(a)]
	for i := range a {
		a[i] = 0xee
	}
	isMeta(t, b, m)
	isMeta(t, meta.Put(m), m)
	room := append(bytes.Repeat([]byte("r"), 50), append(b, make([]byte, 28)...)...)
	room = append(room, bytes.Repeat([]byte("r"), 50)...)
	want := slices.Clone(room)
	isMeta(t, room[50:114], m)
	noMeta(t, "what is no meta", room[51:115])
	noMeta(t, "what is no meta", room[50:115])
	if !bytes.Equal(room, want) {
		t.Error("Get changed what it was handed")
	}
}
