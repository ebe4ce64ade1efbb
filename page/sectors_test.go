package page_test

import (
	"bytes"
	"math"
	"slices"
	"testing"

	"klaxon/api"
	"klaxon/disk"
	"klaxon/page"
)

func made(t *testing.T, sectors, size int) *disk.Disk {
	t.Helper()
	d, err := disk.New(sectors, size)
	if err != api.OK {
		t.Fatalf("New(%d, %d): error %d", sectors, size, err)
	}
	return d
}

func writes(t *testing.T, d *disk.Disk, per int, x api.Page) {
	t.Helper()
	if err := page.Write(d, per, x); err != api.OK {
		t.Fatalf("Write(%d, {%d, %d, %d bytes}): error %d", per, x.Kind, x.Id, len(x.Load), err)
	}
}

func reads(t *testing.T, d *disk.Disk, per int, want api.Page) {
	t.Helper()
	if x, err := page.Read(d, per, int(want.Id)); err != api.OK || !same(x, want) {
		t.Errorf("Read(%d, %d): %v, error %d, want %v", per, want.Id, x, err, want)
	}
}

// readRefused holds the error, and the zero Page beside it.
func readRefused(t *testing.T, d *disk.Disk, per, id int, want api.Errno) {
	t.Helper()
	if x, err := page.Read(d, per, id); err != want || !isZero(x) {
		t.Errorf("Read(%d, %d): %v, error %d, want %d", per, id, x, err, want)
	}
}

func isUnsafe(t *testing.T, d *disk.Disk, want ...int) {
	t.Helper()
	if got := d.Unsafe(); !slices.Equal(got, want) {
		t.Errorf("Unsafe: %v, want %v", got, want)
	}
}

// from is count numbers that begin with first.
func from(first, count int) []int {
	l := make([]int, count)
	for i := range l {
		l[i] = first + i
	}
	return l
}

// P3.4
func TestCount(t *testing.T) {
	for _, c := range []struct{ sectors, size, per, want int }{
		{1, 64, 1, 1}, {1, 64, 2, 0}, {9, 64, 1, 9},
		{9, 64, 2, 4}, {8, 64, 2, 4}, {7, 64, 2, 3}, {10, 64, 2, 5}, // the last one whole, or sectors left over
		{9, 64, 9, 1}, {9, 64, 8, 1}, {9, 64, 10, 0}, {17, 64, 9, 1}, {18, 64, 9, 2},
		{128, 64, 128, 1}, {127, 64, 128, 0}, {300, 64, 127, 2}, {300, 64, 128, 2}, {300, 64, 129, 0}, {300, 64, 130, 0}, // just MaxPage
		{200, 65, 126, 1}, {200, 65, 127, 0}, {200, 100, 81, 2}, {200, 100, 82, 0},
		{20, 1024, 8, 2}, {20, 1024, 9, 0}, {20, 1023, 8, 2}, {20, 1023, 9, 0}, {20, 911, 9, 0}, {20, 910, 9, 2},
		{65536, 64, 1, 16384}, {65536, 64, 2, 16384}, {65536, 64, 3, 16384}, {65536, 64, 4, 16384}, {65536, 64, 5, 13107}, // MaxPages at most
		{65535, 64, 4, 16383}, {16383, 64, 1, 16383}, {16384, 64, 1, 16384}, {16385, 64, 1, 16384},
		{65536, 1024, 8, 8192}, {65536, 1024, 9, 0}, {65536, 64, 128, 512}, {65536, 64, 129, 0}, {65536, 64, 65536, 0},
	} {
		if got := page.Count(made(t, c.sectors, c.size), c.per); got != c.want {
			t.Errorf("%d sectors of %d bytes: Count(%d): %d, want %d", c.sectors, c.size, c.per, got, c.want)
		}
	}
}

// wrongPers make no page of sectors of 64 bytes; some of them, times 64, come
// to what a page may have, if what an int does not hold is lost.
func wrongPers() []int {
	return []int{0, -1, -2, -64, 129, 8192, 8193, 65536, 1 << 25, 1<<26 + 1, math.MaxInt/32 + 2, -(math.MaxInt / 32), math.MaxInt / 64, math.MaxInt, math.MaxInt - 1, math.MinInt, math.MinInt + 1, math.MinInt + 2}
}

// P3.4
func TestCountOfNone(t *testing.T) {
	for _, sectors := range []int{1, 9, 65536} {
		d := made(t, sectors, 64)
		for _, per := range wrongPers() {
			if got := page.Count(d, per); got != 0 {
				t.Errorf("%d sectors: Count(%d): %d", sectors, per, got)
			}
		}
	}
	for _, per := range append(wrongPers(), 1, 2, 64) {
		if got := page.Count(nil, per); got != 0 {
			t.Errorf("Count(nil, %d): %d", per, got)
		}
	}
}

// P3.4: what is on the disk, and its power, have no part.
func TestCountWithoutPower(t *testing.T) {
	d := made(t, 9, 64)
	writes(t, d, 2, api.Page{Kind: 1, Id: 1})
	d.Arm(0)
	isErr(t, "Sync", d.Sync(), api.ErrDead)
	if got := page.Count(d, 2); got != 4 {
		t.Errorf("Count: %d", got)
	}
}

// P3.5: the bytes of Put, sector by sector, from Id times per on; the others stay.
func TestWrite(t *testing.T) {
	for _, c := range []struct{ sectors, size, per, load int }{
		{1, 64, 1, 53}, {9, 64, 2, 100}, {9, 64, 4, 0}, {7, 100, 3, 289}, {300, 64, 128, 8181}, {17, 1024, 8, 8181}, {16, 1000, 8, 1}, {9, 64, 1, 20},
	} {
		for id := range page.Count(made(t, c.sectors, c.size), c.per) {
			d := made(t, c.sectors, c.size)
			x := api.Page{Kind: byte(id + 1), Id: uint32(id), Load: counted(c.load)}
			writes(t, d, c.per, x)
			isUnsafe(t, d, from(id*c.per, c.per)...)
			if d.Ops() != c.per {
				t.Errorf("%d operations, want %d", d.Ops(), c.per)
			}
			var b []byte
			for n := range c.per {
				sector, _ := d.Read(id*c.per + n)
				b = append(b, sector...)
			}
			if !bytes.Equal(b, laid(t, c.per*c.size, x)) {
				t.Errorf("%v, page %d: %x", c, id, b)
			}
			reads(t, d, c.per, x)
		}
	}
}

// P3.5: Write does not sync, and what was synced lasts.
func TestWrittenAndSynced(t *testing.T) {
	d := made(t, 9, 64)
	old, fresh := api.Page{Kind: 1, Id: 2, Load: []byte("old")}, api.Page{Kind: 2, Id: 2, Load: counted(117)}
	writes(t, d, 2, old)
	isErr(t, "Sync", d.Sync(), api.OK)
	writes(t, d, 2, fresh)
	reads(t, d, 2, fresh)
	d.Crash(nil)
	reads(t, d, 2, old)
	writes(t, d, 2, fresh)
	d.Crash([]int{4, 5})
	reads(t, d, 2, fresh)
}

// P3.5: a page has a place of its own; the first and the last one too.
func TestPagesAreApart(t *testing.T) {
	for _, per := range []int{1, 2, 3, 4, 9} {
		d := made(t, 27, 64)
		count := page.Count(d, per)
		told := func(id int) api.Page {
			return api.Page{Kind: byte(id + 1), Id: uint32(id), Load: bytes.Repeat([]byte{byte(id)}, id)}
		}
		for id := count - 1; id >= 0; id-- {
			writes(t, d, per, told(id))
		}
		for id := range count {
			reads(t, d, per, told(id))
		}
		readRefused(t, d, per, count, api.ErrArg)
	}
}

// P3.4 to P3.6: a disk may have sectors behind its last page.
func TestPagesOfGreatDisk(t *testing.T) {
	d := made(t, api.MaxSectors, 64)
	last := api.Page{Kind: 1, Id: api.MaxPages - 1, Load: []byte("last")}
	for _, per := range []int{1, 3, 4} {
		writes(t, d, per, last)
		isUnsafe(t, d, from(16383*per, per)...)
		reads(t, d, per, last)
		isErr(t, "Write behind the last", page.Write(d, per, api.Page{Kind: 1, Id: api.MaxPages}), api.ErrArg)
		readRefused(t, d, per, api.MaxPages, api.ErrArg)
		isErr(t, "Sync", d.Sync(), api.OK)
	}
}

// P3.5: ErrNone ahead of ErrArg ahead of Put's errors ahead of the disk's;
// what is refused changes nothing.
func TestWriteIsRefused(t *testing.T) {
	d := made(t, 9, 64)
	x := api.Page{Kind: 1, Id: 3, Load: []byte("load")}
	writes(t, d, 2, x)
	long := make([]byte, 118)
	refused := func() {
		t.Helper()
		for _, id := range []uint32{4, 5, 8, 9, 65536, 1 << 31, math.MaxUint32} {
			for _, wrong := range []api.Page{{Kind: 1, Id: id}, {Id: id}, {Kind: 1, Id: id, Load: long}, {Id: id, Load: long}} {
				isErr(t, "Write where no page is", page.Write(d, 2, wrong), api.ErrArg)
			}
		}
		for _, per := range append(wrongPers(), 10) {
			isErr(t, "Write of no such pages", page.Write(d, per, api.Page{Kind: 1}), api.ErrArg)
			isErr(t, "Write of no such pages", page.Write(d, per, api.Page{Kind: 1, Load: long}), api.ErrArg)
		}
		for id := range uint32(4) {
			isErr(t, "Write of Kind 0", page.Write(d, 2, api.Page{Id: id}), api.ErrArg)
			isErr(t, "Write of Kind 0", page.Write(d, 2, api.Page{Id: id, Load: long}), api.ErrArg)
			isErr(t, "Write of too much", page.Write(d, 2, api.Page{Kind: 1, Id: id, Load: long}), api.ErrLong)
			isErr(t, "Write of too much", page.Write(d, 1, api.Page{Kind: 1, Id: id, Load: long[:54]}), api.ErrLong)
		}
		isUnsafe(t, d, 6, 7)
		if d.Ops() != 2 {
			t.Errorf("%d operations", d.Ops())
		}
	}
	refused()
	reads(t, d, 2, x)
	d.Arm(0)
	refused()
	isErr(t, "Write", page.Write(d, 2, api.Page{Kind: 1, Id: 3, Load: long[:117]}), api.ErrDead)
	refused()
	isErr(t, "Write", page.Write(d, 2, x), api.ErrDead)
	d.Crash([]int{6, 7})
	reads(t, d, 2, x)
}

// P3.6: ErrNone ahead of ErrArg ahead of the disk's ahead of ErrPage.
func TestReadIsRefused(t *testing.T) {
	d := made(t, 9, 64)
	writes(t, d, 2, api.Page{Kind: 1, Id: 3})
	wrong := func() {
		t.Helper()
		for _, id := range []int{-1, 4, 5, 8, 9, 65536, 1<<32 + 3, -1<<32 + 3, math.MaxInt, math.MinInt} {
			readRefused(t, d, 2, id, api.ErrArg)
		}
		for _, per := range append(wrongPers(), 10) {
			for _, id := range []int{0, 1, -1} {
				readRefused(t, d, per, id, api.ErrArg)
			}
		}
	}
	wrong()
	readRefused(t, d, 2, 0, api.ErrPage)
	d.Arm(0)
	wrong()
	reads(t, d, 2, api.Page{Kind: 1, Id: 3})
	isErr(t, "Sync", d.Sync(), api.ErrDead)
	wrong()
	for id := range 4 {
		readRefused(t, d, 2, id, api.ErrDead)
	}
}

// P3.5, P3.6
func TestNilDisk(t *testing.T) {
	for _, per := range append(wrongPers(), 1, 2) {
		for _, id := range []int{0, 1, -1, math.MaxInt, math.MinInt} {
			readRefused(t, nil, per, id, api.ErrNone)
		}
		for _, x := range []api.Page{{}, {Kind: 1}, {Kind: 1, Id: 5}, {Kind: 1, Load: make([]byte, 9000)}, {Id: math.MaxUint32}} {
			isErr(t, "Write", page.Write(nil, per, x), api.ErrNone)
		}
	}
}

// P3.5: the power goes off between two sectors of a page: those ahead of it
// are written, the others not.
func TestPowerWithinPage(t *testing.T) {
	const per = 5
	old := api.Page{Kind: 1, Id: 1, Load: bytes.Repeat([]byte("o"), 300)}
	fresh := api.Page{Kind: 2, Id: 1, Load: bytes.Repeat([]byte("f"), 309)}
	for after := range per + 1 {
		for _, kept := range []bool{true, false} {
			d := made(t, 12, 64)
			writes(t, d, per, old)
			isErr(t, "Sync", d.Sync(), api.OK)
			d.Arm(after)
			want := api.ErrDead
			if after == per {
				want = api.OK
			}
			isErr(t, "Write", page.Write(d, per, fresh), want)
			isUnsafe(t, d, from(per, after)...)
			var keep []int
			if kept {
				keep = d.Unsafe()
			}
			d.Crash(keep)
			switch {
			case !kept || after == 0:
				reads(t, d, per, old)
			case after == per:
				reads(t, d, per, fresh)
			default:
				readRefused(t, d, per, 1, api.ErrPage)
			}
		}
	}
}

// P3.6: a page of which sectors are lost, or torn, is not whole.
func TestTornPage(t *testing.T) {
	const per = 3
	x := api.Page{Kind: 1, Id: 2, Load: bytes.Repeat([]byte{0xff}, 3*64-11)}
	for lost := range per {
		for cut := range 64 {
			d := made(t, 9, 64)
			writes(t, d, per, x)
			keep := slices.Delete(from(6, per), lost, lost+1)
			d.Crash(keep, api.Torn{Sector: 6 + lost, Bytes: cut})
			readRefused(t, d, per, 2, api.ErrPage)
		}
	}
}

// P3.6: a whole page that stands where another one belongs is none there.
func TestPageAtAnotherPlace(t *testing.T) {
	d := made(t, 9, 64)
	for _, id := range []uint32{0, 1, 2, 3, 4, 65536 + 1, 1<<24 + 1, math.MaxUint32} {
		x := api.Page{Kind: 1, Id: id, Load: []byte("load")}
		b := laid(t, 128, x)
		isErr(t, "Write", d.Write(2, b[:64]), api.OK)
		isErr(t, "Write", d.Write(3, b[64:]), api.OK)
		if id == 1 {
			reads(t, d, 2, x)
		} else {
			readRefused(t, d, 2, 1, api.ErrPage)
		}
	}
}

// P3.6: bytes on a disk that are no page.
func TestReadOfNoPage(t *testing.T) {
	d := made(t, 4, 64)
	for id := range 4 {
		readRefused(t, d, 1, id, api.ErrPage)
	}
	for _, b := range [][]byte{
		forged(64, 0, 1, 2, "ab"),
		forged(64, 1, 1, 1, "ab"),
		forged(64, 1, 1, 54, "ab"),
		forged(64, 1, 1, 65535, "ab"),
		append(forged(64, 1, 1, 2, "ab")[:60], "mark"...),
		bytes.Repeat([]byte{255}, 64),
	} {
		isErr(t, "Write", d.Write(1, b), api.OK)
		readRefused(t, d, 1, 1, api.ErrPage)
	}
	isErr(t, "Write", d.Write(1, forged(64, 1, 1, 2, "ab")), api.OK)
	reads(t, d, 1, api.Page{Kind: 1, Id: 1, Load: []byte("ab")})
}

// P3.6: pages of another size than they were written with are none.
func TestReadWithAnotherPer(t *testing.T) {
	d := made(t, 12, 64)
	for id := range uint32(6) {
		writes(t, d, 2, api.Page{Kind: 1, Id: id, Load: bytes.Repeat([]byte("l"), 100)})
	}
	for _, per := range []int{1, 3, 4, 6, 12} {
		for id := range page.Count(d, per) {
			readRefused(t, d, per, id, api.ErrPage)
		}
	}
}

// P3.6: reading changes nothing.
func TestReadingChangesNothing(t *testing.T) {
	d := made(t, 9, 64)
	x := api.Page{Kind: 1, Id: 3, Load: []byte("load")}
	writes(t, d, 2, x)
	d.Arm(1)
	for range 5 {
		reads(t, d, 2, x)
		readRefused(t, d, 2, 2, api.ErrPage)
	}
	isUnsafe(t, d, 6, 7)
	if d.Ops() != 2 || d.Dead() {
		t.Errorf("%d operations, dead %v", d.Ops(), d.Dead())
	}
}

// P3.5, P3.6: no list is kept or shared.
func TestDiskSharesNothing(t *testing.T) {
	d := made(t, 4, 64)
	x := api.Page{Kind: 1, Id: 1, Load: []byte("load")}
	handed := api.Page{Kind: 1, Id: 1, Load: append(make([]byte, 0, 200), "load"...)}
	spare := handed.Load[4:200]
	writes(t, d, 2, handed)
	if !bytes.Equal(spare, make([]byte, 196)) || !same(handed, x) {
		t.Error("Write changed what it was handed")
	}
	copy(handed.Load, "else")
	a, _ := page.Read(d, 2, 1)
	b, _ := page.Read(d, 2, 1)
	for i := range a.Load[:cap(a.Load)] {
		a.Load[:cap(a.Load)][i] = 0xee
	}
	if !same(b, x) {
		t.Error("two answers of Read share bytes")
	}
	reads(t, d, 2, x)
}
