package meta_test

import (
	"bytes"
	"math"
	"slices"
	"testing"

	"klaxon/api"
	"klaxon/disk"
	"klaxon/meta"
)

func made(t *testing.T, sectors, size int) *disk.Disk {
	t.Helper()
	d, err := disk.New(sectors, size)
	if err != api.OK {
		t.Fatalf("New(%d, %d): error %d", sectors, size, err)
	}
	return d
}

func writes(t *testing.T, d *disk.Disk, per int, m api.Meta) {
	t.Helper()
	if err := meta.Write(d, per, m); err != api.OK {
		t.Fatalf("Write(%d, %v): error %d", per, m, err)
	}
}

func syncs(t *testing.T, d *disk.Disk) {
	t.Helper()
	if err := d.Sync(); err != api.OK {
		t.Fatalf("Sync: error %d", err)
	}
}

// lays writes bytes into a sector, whatever they are.
func lays(t *testing.T, d *disk.Disk, sector int, b []byte) {
	t.Helper()
	if err := d.Write(sector, b); err != api.OK {
		t.Fatalf("Write of sector %d: error %d", sector, err)
	}
}

func isBest(t *testing.T, d *disk.Disk, per int, want api.Meta) {
	t.Helper()
	if m, err := meta.Best(d, per); err != api.OK || m != want {
		t.Errorf("Best(%d): %v, error %d, want %v", per, m, err, want)
	}
}

// noBest holds the error, and the zero Meta beside it.
func noBest(t *testing.T, d *disk.Disk, per int, want api.Errno) {
	t.Helper()
	if m, err := meta.Best(d, per); err != want || m != (api.Meta{}) {
		t.Errorf("Best(%d): %v, error %d, want %d", per, m, err, want)
	}
}

// numbered is a meta with that Seq, whose other numbers tell it apart.
func numbered(seq uint64) api.Meta {
	return api.Meta{Seq: seq, Root: int(seq*7919%16384) + 1, Keys: int(seq*104729) & math.MaxInt32, Depth: int(seq % 65)}
}

// seqs are of either parity, with bytes 0 at their end and without, up to the
// greatest.
func seqs() []uint64 {
	return []uint64{1, 2, 3, 7, 8, 255, 256, 257, 258, 65535, 65536, 1<<32 - 1, 1 << 32, 1<<56 + 1, 1 << 63, math.MaxUint64 - 1, math.MaxUint64}
}

// mayNotBe are metas that Get would not find again.
func mayNotBe() []api.Meta {
	l := []api.Meta{{}, {Root: 3, Keys: 9, Depth: 2}}
	for _, root := range []int{-1, 16385, 1 << 31, 1 << 32, 1<<32 + 3, -1<<32 + 3, math.MinInt, math.MinInt + 3, math.MaxInt} {
		l = append(l, api.Meta{Seq: 1, Root: root}, api.Meta{Seq: 2, Root: root, Keys: 9, Depth: 2})
	}
	for _, keys := range []int{-1, 1 << 31, 1 << 32, 1<<32 + 9, -1<<32 + 9, math.MinInt, math.MaxInt} {
		l = append(l, api.Meta{Seq: 1, Keys: keys}, api.Meta{Seq: 2, Root: 3, Keys: keys, Depth: 2})
	}
	for _, depth := range []int{-1, 65, 1 << 31, 1 << 32, 1<<32 + 2, -1<<32 + 2, math.MinInt, math.MinInt + 2, math.MaxInt} {
		l = append(l, api.Meta{Seq: 1, Depth: depth}, api.Meta{Seq: 2, Root: 3, Keys: 9, Depth: depth})
	}
	return l
}

// wrongPers leave fewer than FirstPage pages of 9 sectors of 64 bytes.
func wrongPers() []int {
	return []int{0, -1, -2, 5, 8, 9, 10, 128, 129, 8193, 65536, 1<<58 + 1, math.MaxInt/32 + 2, math.MaxInt, math.MinInt, math.MinInt + 2}
}

// P4.3: the bytes stand in the first sector of the page of Seq's parity, with
// bytes 0 behind them, and nothing else is written.
func TestWrite(t *testing.T) {
	for _, c := range []struct{ sectors, size, per int }{{2, 64, 1}, {9, 64, 1}, {9, 64, 2}, {9, 64, 4}, {8, 64, 4}, {7, 100, 3}, {17, 1024, 8}, {256, 64, 128}} {
		for _, seq := range seqs() {
			d := made(t, c.sectors, c.size)
			m := numbered(seq)
			writes(t, d, c.per, m)
			sector := int(seq%2) * c.per
			if got := d.Unsafe(); !slices.Equal(got, []int{sector}) || d.Ops() != 1 {
				t.Errorf("%v, Seq %d: sectors %v are unsafe, %d operations", c, seq, got, d.Ops())
			}
			b, _ := d.Read(sector)
			if !bytes.Equal(b, append(meta.Put(m), make([]byte, c.size-36)...)) {
				t.Errorf("%v, Seq %d: %x", c, seq, b)
			}
			isBest(t, d, c.per, m)
		}
	}
}

// P4.3: what stood in the sector is not there any more, whatever it was.
func TestWriteOverBytes(t *testing.T) {
	d := made(t, 4, 64)
	for sector := range 4 {
		lays(t, d, sector, bytes.Repeat([]byte{0xff}, 64))
	}
	writes(t, d, 2, numbered(6))
	isBest(t, d, 2, numbered(6))
	writes(t, d, 2, numbered(9))
	isBest(t, d, 2, numbered(9))
	for _, sector := range []int{1, 3} {
		if b, _ := d.Read(sector); !bytes.Equal(b, bytes.Repeat([]byte{0xff}, 64)) {
			t.Errorf("sector %d: %x", sector, b)
		}
	}
}

// P4.3: each number from its least to its greatest may be written.
func TestWriteAtTheEdges(t *testing.T) {
	for _, seq := range []uint64{1, 2, math.MaxUint64 - 1, math.MaxUint64} {
		for _, root := range []int{0, 1, 16384} {
			for _, keys := range []int{0, 1, 1<<31 - 1} {
				for _, depth := range []int{0, 1, 64} {
					d := made(t, 2, 64)
					m := api.Meta{Seq: seq, Root: root, Keys: keys, Depth: depth}
					writes(t, d, 1, m)
					isBest(t, d, 1, m)
				}
			}
		}
	}
}

// P4.3: ErrNone ahead of ErrArg ahead of the disk's; what is refused changes
// nothing.
func TestWriteIsRefused(t *testing.T) {
	d := made(t, 9, 64)
	writes(t, d, 2, numbered(3))
	refused := func() {
		t.Helper()
		for _, m := range mayNotBe() {
			isErr(t, "Write of no meta", meta.Write(d, 2, m), api.ErrArg)
			isErr(t, "Write of no meta, onto no pages", meta.Write(d, 5, m), api.ErrArg)
		}
		for _, per := range wrongPers() {
			isErr(t, "Write onto no pages", meta.Write(d, per, numbered(4)), api.ErrArg)
			isErr(t, "Write onto no pages", meta.Write(d, per, numbered(5)), api.ErrArg)
		}
		if got := d.Unsafe(); !slices.Equal(got, []int{2}) || d.Ops() != 1 {
			t.Errorf("sectors %v are unsafe, %d operations", got, d.Ops())
		}
	}
	refused()
	isBest(t, d, 2, numbered(3))
	d.Arm(0)
	refused()
	isErr(t, "Write without power", meta.Write(d, 2, numbered(4)), api.ErrDead)
	refused()
	isErr(t, "Write without power", meta.Write(d, 2, numbered(5)), api.ErrDead)
	d.Crash([]int{0, 2})
	isBest(t, d, 2, numbered(3))
}

// P4.3, P4.4: just FirstPage pages, and one less.
func TestTwoPagesAndOne(t *testing.T) {
	for _, c := range []struct {
		sectors, size, per int
		want               api.Errno
	}{
		{2, 64, 1, api.OK}, {1, 64, 1, api.ErrArg}, {3, 64, 1, api.OK},
		{4, 64, 2, api.OK}, {3, 64, 2, api.ErrArg}, {2, 64, 2, api.ErrArg}, {1, 64, 2, api.ErrArg},
		{16, 1024, 8, api.OK}, {15, 1024, 8, api.ErrArg}, {18, 1024, 9, api.ErrArg},
		{256, 64, 128, api.OK}, {255, 64, 128, api.ErrArg}, {258, 64, 129, api.ErrArg},
		{65536, 64, 1, api.OK}, {65536, 1024, 8, api.OK}, {65536, 1024, 9, api.ErrArg},
	} {
		d := made(t, c.sectors, c.size)
		for _, seq := range []uint64{1, 2} {
			isErr(t, "Write", meta.Write(d, c.per, numbered(seq)), c.want)
			if c.want == api.OK {
				isBest(t, d, c.per, numbered(seq))
			} else {
				noBest(t, d, c.per, c.want)
			}
		}
	}
}

// P4.3, P4.4
func TestNilDisk(t *testing.T) {
	for _, per := range append(wrongPers(), 1, 2) {
		noBest(t, nil, per, api.ErrNone)
		for _, m := range append(mayNotBe(), numbered(1), numbered(2)) {
			isErr(t, "Write", meta.Write(nil, per, m), api.ErrNone)
		}
	}
}

// P4.4: both are there: the greater Seq, whichever page it stands in, and
// however far apart they are.
func TestBestOfTwo(t *testing.T) {
	for _, even := range seqs() {
		for _, odd := range seqs() {
			if even%2 != 0 || odd%2 != 1 {
				continue
			}
			for _, evenFirst := range []bool{true, false} {
				d := made(t, 9, 64)
				order := []uint64{odd, even}
				if evenFirst {
					order = []uint64{even, odd}
				}
				for _, seq := range order {
					writes(t, d, 3, numbered(seq))
				}
				isBest(t, d, 3, numbered(max(even, odd)))
			}
		}
	}
}

// P4.4: only the Seq has a part in it, not which one was written last, nor the
// other numbers.
func TestBestIsBySeqAlone(t *testing.T) {
	d := made(t, 4, 64)
	great := api.Meta{Seq: 5, Root: 16384, Keys: 1<<31 - 1, Depth: 64}
	writes(t, d, 2, great)
	isBest(t, d, 2, great)
	writes(t, d, 2, api.Meta{Seq: 6})
	isBest(t, d, 2, api.Meta{Seq: 6})
	writes(t, d, 2, api.Meta{Seq: 2, Root: 1})
	isBest(t, d, 2, great)
	writes(t, d, 2, api.Meta{Seq: 1})
	isBest(t, d, 2, api.Meta{Seq: 2, Root: 1})
}

// P4.4: one is there alone; the other is bytes 0, or bytes that are none.
func TestBestOfOne(t *testing.T) {
	wrong := [][]byte{
		nil,
		bytes.Repeat([]byte{0xff}, 64),
		forged(99, 1, 1, 1, 98),
		forged(99, 16385, 1, 1, 99),
		forged(98, 1, 1<<31, 1, 98),
		forged(98, 1, 1, 65, 98),
		append(forged(98, 1, 1, 1, 98), 1),
		append(forged(99, 1, 1, 1, 99), 1),
		append(bytes.Repeat([]byte{0}, 28), forged(98, 1, 1, 1, 98)...),
	}
	for _, seq := range []uint64{1, 2, 7, 8} {
		for _, b := range wrong {
			d := made(t, 9, 64)
			lays(t, d, int((seq+1)%2)*3, b)
			noBest(t, d, 3, api.ErrMeta)
			writes(t, d, 3, numbered(seq))
			isBest(t, d, 3, numbered(seq))
		}
	}
}

// P4.4: a whole meta that stands in the other page's sector is none there, and
// none in the page's other sectors.
func TestBestOfMetaElsewhere(t *testing.T) {
	for _, seq := range seqs() {
		right := int(seq%2) * 2
		for sector := range 9 {
			d := made(t, 9, 64)
			lays(t, d, sector, meta.Put(numbered(seq)))
			if sector == right {
				isBest(t, d, 2, numbered(seq))
			} else {
				noBest(t, d, 2, api.ErrMeta)
			}
		}
	}
	d := made(t, 9, 64)
	lays(t, d, 0, meta.Put(numbered(9)))
	writes(t, d, 2, numbered(3))
	isBest(t, d, 2, numbered(3))
	lays(t, d, 2, meta.Put(numbered(8)))
	noBest(t, d, 2, api.ErrMeta)
	writes(t, d, 2, numbered(6))
	isBest(t, d, 2, numbered(6))
}

// P4.4: none is there: ErrNone ahead of ErrArg ahead of the disk's ahead of
// ErrMeta.
func TestBestIsRefused(t *testing.T) {
	d := made(t, 9, 64)
	wrong := func() {
		t.Helper()
		for _, per := range wrongPers() {
			noBest(t, d, per, api.ErrArg)
		}
	}
	wrong()
	noBest(t, d, 2, api.ErrMeta)
	d.Arm(0)
	noBest(t, d, 2, api.ErrMeta)
	isErr(t, "Sync", d.Sync(), api.ErrDead)
	wrong()
	noBest(t, d, 2, api.ErrDead)
	d.Crash(nil)
	noBest(t, d, 2, api.ErrMeta)
	writes(t, d, 2, numbered(1))
	wrong()
	d.Arm(0)
	isBest(t, d, 2, numbered(1))
	isErr(t, "Sync", d.Sync(), api.ErrDead)
	wrong()
	noBest(t, d, 2, api.ErrDead)
	noBest(t, d, 4, api.ErrDead)
}

// P4.4: pages of another size have other first sectors.
func TestBestWithAnotherPer(t *testing.T) {
	d := made(t, 9, 64)
	writes(t, d, 2, numbered(5))
	for _, per := range []int{1, 3, 4} {
		noBest(t, d, per, api.ErrMeta)
	}
	writes(t, d, 2, numbered(4))
	for _, per := range []int{1, 3, 4} {
		isBest(t, d, per, numbered(4))
	}
	isBest(t, d, 2, numbered(5))
}

// P4.4: asking changes nothing.
func TestBestChangesNothing(t *testing.T) {
	d := made(t, 9, 64)
	writes(t, d, 2, numbered(5))
	d.Arm(1)
	for range 5 {
		isBest(t, d, 2, numbered(5))
		noBest(t, d, 3, api.ErrMeta)
	}
	if got := d.Unsafe(); !slices.Equal(got, []int{2}) || d.Ops() != 1 || d.Dead() {
		t.Errorf("sectors %v are unsafe, %d operations, dead %v", got, d.Ops(), d.Dead())
	}
}

// P4.3, P4.4: example 1 of the chapter.
func TestExample(t *testing.T) {
	d := made(t, 8, 64)
	writes(t, d, 2, api.Meta{Seq: 1})
	syncs(t, d)
	isBest(t, d, 2, api.Meta{Seq: 1})
	writes(t, d, 2, api.Meta{Seq: 2})
	d.Crash(nil)
	isBest(t, d, 2, api.Meta{Seq: 1})
}
