package disk_test

import (
	"bytes"
	"math"
	"slices"
	"strings"
	"testing"

	"klaxon/api"
	"klaxon/disk"
)

func made(t *testing.T, sectors, size int) *disk.Disk {
	t.Helper()
	d, err := disk.New(sectors, size)
	if d == nil || err != api.OK {
		t.Fatalf("New(%d, %d): %v, %v", sectors, size, d, err)
	}
	return d
}

func isErr(t *testing.T, what string, got, want api.Errno) {
	t.Helper()
	if got != want {
		t.Errorf("%s: error %d, want %d", what, got, want)
	}
}

// reads holds a sector against text and bytes 0 behind it.
func reads(t *testing.T, d *disk.Disk, n int, text string) {
	t.Helper()
	want := text + strings.Repeat("\x00", d.Size()-len(text))
	if b, err := d.Read(n); err != api.OK || string(b) != want {
		t.Errorf("Read(%d): %q, error %d, want %q", n, b, err, want)
	}
}

func isUnsafe(t *testing.T, d *disk.Disk, want ...int) {
	t.Helper()
	if got := d.Unsafe(); !slices.Equal(got, want) {
		t.Errorf("Unsafe: %v, want %v", got, want)
	}
}

func isDead(t *testing.T, d *disk.Disk, want bool) {
	t.Helper()
	if got := d.Dead(); got != want {
		t.Errorf("Dead: %v, want %v", got, want)
	}
}

func isOps(t *testing.T, d *disk.Disk, want int) {
	t.Helper()
	if got := d.Ops(); got != want {
		t.Errorf("Ops: %d, want %d", got, want)
	}
}

// P2.1: the least and the greatest disks, and some between.
func TestNewDisk(t *testing.T) {
	for _, sectors := range []int{1, 2, 8, api.MaxSectors - 1, api.MaxSectors} {
		for _, size := range []int{api.MinSector, api.MinSector + 1, 512, api.MaxSector - 1, api.MaxSector} {
			d := made(t, sectors, size)
			if d.Sectors() != sectors || d.Size() != size {
				t.Errorf("New(%d, %d): %d sectors of %d bytes", sectors, size, d.Sectors(), d.Size())
			}
			isDead(t, d, false)
			isUnsafe(t, d)
			isOps(t, d, 0)
			for _, n := range []int{0, sectors / 2, sectors - 1} {
				reads(t, d, n, "")
			}
		}
	}
}

// P2.1
func TestNoNewDisk(t *testing.T) {
	wrong := [][2]int{
		{0, 64}, {-1, 64}, {math.MinInt, 64}, {api.MaxSectors + 1, 64}, {math.MaxInt, 64},
		{8, 0}, {8, -1}, {8, -64}, {8, api.MinSector - 1}, {8, api.MaxSector + 1}, {8, math.MaxInt}, {8, math.MinInt},
		{0, 0}, {math.MaxInt, math.MaxInt}, {-8, -64}, {64, 8},
	}
	for _, w := range wrong {
		if d, err := disk.New(w[0], w[1]); d != nil || err != api.ErrArg {
			t.Errorf("New(%d, %d): %v, error %d", w[0], w[1], d, err)
		}
	}
}

// P2.1: two disks have nothing in common.
func TestDisksAreApart(t *testing.T) {
	a, b := made(t, 2, 64), made(t, 2, 64)
	isErr(t, "Write", a.Write(1, []byte("a")), api.OK)
	a.Arm(0)
	isErr(t, "Sync", a.Sync(), api.ErrDead)
	reads(t, b, 1, "")
	isUnsafe(t, b)
	isOps(t, b, 0)
	isErr(t, "Sync", b.Sync(), api.OK)
}

// P2.2, P2.3: lists behind one another, and bytes 0 behind them.
func TestWrittenIsRead(t *testing.T) {
	for _, size := range []int{api.MinSector, 100, api.MaxSector} {
		d := made(t, 8, size)
		whole := bytes.Repeat([]byte{0xff}, size)
		for _, l := range [][][]byte{
			{},
			{nil},
			{{}, nil, {}},
			{[]byte("ab")},
			{[]byte("a"), nil, []byte("bc"), {}, []byte("\x00d")},
			{whole},
			{whole[:size-1]},
			{nil, whole, {}},
			{whole[:1], whole[:size-2], whole[:1]},
			{whole[:size/2], whole[size/2:]},
		} {
			for _, n := range []int{0, 3, 7} {
				isErr(t, "Write", d.Write(n, l...), api.OK)
				reads(t, d, n, string(slices.Concat(l...)))
			}
		}
	}
}

// P2.2: what was written last counts, also where it is shorter, and the other
// sectors stay.
func TestWrittenAgain(t *testing.T) {
	d := made(t, 3, 64)
	for _, text := range []string{"long ago", "now", "", "then"} {
		isErr(t, "Write", d.Write(1, []byte(text)), api.OK)
		reads(t, d, 1, text)
		reads(t, d, 0, "")
		reads(t, d, 2, "")
	}
	isErr(t, "Sync", d.Sync(), api.OK)
	isErr(t, "Write", d.Write(1, []byte("x")), api.OK)
	reads(t, d, 1, "x")
}

// P2.2: ErrArg ahead of ErrLong ahead of ErrDead; what is refused changes nothing.
func TestWriteIsRefused(t *testing.T) {
	d := made(t, 4, 64)
	isErr(t, "Write", d.Write(0, []byte("first")), api.OK)
	isErr(t, "Write", d.Write(3, []byte("last")), api.OK)
	long := make([]byte, 65)
	refused := func() {
		t.Helper()
		for _, n := range []int{-1, 4, 5, 64, math.MaxInt, math.MinInt} {
			isErr(t, "Write where no sector is", d.Write(n), api.ErrArg)
			isErr(t, "Write where no sector is", d.Write(n, []byte("a")), api.ErrArg)
			isErr(t, "Write of too much where no sector is", d.Write(n, long), api.ErrArg)
		}
		for _, n := range []int{0, 1, 3} {
			isErr(t, "Write of too much", d.Write(n, long), api.ErrLong)
			isErr(t, "Write of too much", d.Write(n, long[:64], long[:1]), api.ErrLong)
			isErr(t, "Write of too much", d.Write(n, long[:1], nil, long[:64]), api.ErrLong)
			isErr(t, "Write of too much", d.Write(n, long[:32], long[:32], long[:1]), api.ErrLong)
			isErr(t, "Write of too much", d.Write(n, make([]byte, 1<<20), nil), api.ErrLong)
		}
		isUnsafe(t, d, 0, 3)
		isOps(t, d, 2)
	}
	refused()
	reads(t, d, 0, "first")
	reads(t, d, 1, "")
	reads(t, d, 3, "last")

	d.Arm(0)
	refused()
	isDead(t, d, false)
	isErr(t, "Write", d.Write(1, long[:64]), api.ErrDead)
	isDead(t, d, true)
	refused()
	isErr(t, "Write", d.Write(1), api.ErrDead)
	isUnsafe(t, d, 0, 3)
	isOps(t, d, 2)
}

// P2.3: ErrArg ahead of ErrDead, and no bytes beside an error.
func TestReadIsRefused(t *testing.T) {
	d := made(t, 4, 64)
	refused := func(n int, want api.Errno) {
		t.Helper()
		b, err := d.Read(n)
		if len(b) != 0 {
			t.Errorf("Read(%d): %q beside an error", n, b)
		}
		isErr(t, "Read", err, want)
	}
	none := []int{-1, 4, 5, math.MaxInt, math.MinInt}
	for _, n := range none {
		refused(n, api.ErrArg)
	}
	d.Arm(0)
	isErr(t, "Sync", d.Sync(), api.ErrDead)
	for _, n := range none {
		refused(n, api.ErrArg)
	}
	for n := range 4 {
		refused(n, api.ErrDead)
	}
	d.Crash(nil)
	for n := range 4 {
		reads(t, d, n, "")
	}
}

// P2.3: reading is no operation, and changes nothing.
func TestReadingChangesNothing(t *testing.T) {
	d := made(t, 4, 64)
	isErr(t, "Write", d.Write(2, []byte("ab")), api.OK)
	d.Arm(1)
	for range 5 {
		reads(t, d, 2, "ab")
		reads(t, d, 0, "")
	}
	isUnsafe(t, d, 2)
	isOps(t, d, 1)
	isErr(t, "Sync", d.Sync(), api.OK)
	reads(t, d, 2, "ab")
	isDead(t, d, false)
}

// P2.2, P2.4: a sector is unsafe from Write until Sync.
func TestUnsafeUntilSync(t *testing.T) {
	d := made(t, 100, 64)
	isErr(t, "Sync of nothing", d.Sync(), api.OK)
	isUnsafe(t, d)
	var want []int
	for _, n := range []int{99, 5, 50, 0, 7, 98, 5, 99} {
		isErr(t, "Write", d.Write(n, []byte("same")), api.OK)
		if !slices.Contains(want, n) {
			want = append(want, n)
		}
		slices.Sort(want)
		isUnsafe(t, d, want...)
	}
	isErr(t, "Sync", d.Sync(), api.OK)
	isUnsafe(t, d)
	for _, n := range want {
		reads(t, d, n, "same")
	}
	isErr(t, "Write of the same", d.Write(50, []byte("same")), api.OK)
	isErr(t, "Write of nothing", d.Write(49), api.OK)
	isUnsafe(t, d, 49, 50)
	isErr(t, "Sync", d.Sync(), api.OK)
	isUnsafe(t, d)
}

// P2.7: each operation that was OK counts, and nothing else, also through a Crash.
func TestOpsAreCounted(t *testing.T) {
	d := made(t, 4, 64)
	for n := range 4 {
		isErr(t, "Write", d.Write(n), api.OK)
		isOps(t, d, n+1)
	}
	isErr(t, "Sync", d.Sync(), api.OK)
	isErr(t, "Sync", d.Sync(), api.OK)
	isOps(t, d, 6)
	isErr(t, "Write", d.Write(4), api.ErrArg)
	isErr(t, "Write", d.Write(0, make([]byte, 65)), api.ErrLong)
	d.Read(0)
	d.Arm(1)
	isOps(t, d, 6)
	isErr(t, "Write", d.Write(0), api.OK)
	isErr(t, "Write", d.Write(0), api.ErrDead)
	isErr(t, "Sync", d.Sync(), api.ErrDead)
	isOps(t, d, 7)
	d.Crash([]int{0})
	isOps(t, d, 7)
	isErr(t, "Sync", d.Sync(), api.OK)
	isOps(t, d, 8)
	if d.Sectors() != 4 || d.Size() != 64 {
		t.Errorf("%d sectors of %d bytes", d.Sectors(), d.Size())
	}
}

// P2.7
func TestNilDisk(t *testing.T) {
	var d *disk.Disk
	for range 2 {
		isErr(t, "Write", d.Write(0, []byte("a")), api.ErrNone)
		isErr(t, "Write", d.Write(-1, make([]byte, 2000)), api.ErrNone)
		for _, n := range []int{0, -1, 1} {
			b, err := d.Read(n)
			isErr(t, "Read", err, api.ErrNone)
			if len(b) != 0 {
				t.Errorf("Read: %q", b)
			}
		}
		isErr(t, "Sync", d.Sync(), api.ErrNone)
		isDead(t, d, false)
		isUnsafe(t, d)
		isOps(t, d, 0)
		if d.Sectors() != 0 || d.Size() != 0 {
			t.Errorf("%d sectors of %d bytes", d.Sectors(), d.Size())
		}
		d.Arm(0)
		d.Crash([]int{0}, api.Torn{Sector: 1, Bytes: 1})
	}
}

// P2.2: lists that are handed in are neither changed nor kept.
func TestWriteKeepsNoList(t *testing.T) {
	d := made(t, 2, 64)
	room := bytes.Repeat([]byte("r"), 200)
	whole := room[:64]
	l := [][]byte{room[:2], room[10:12], nil}
	isErr(t, "Write", d.Write(0, l...), api.OK)
	isErr(t, "Write", d.Write(1, whole), api.OK)
	if string(room) != strings.Repeat("r", 200) || len(l) != 3 || l[2] != nil {
		t.Error("Write changed what it was handed")
	}
	copy(room, "changed")
	clear(room[10:])
	reads(t, d, 0, "rrrr")
	reads(t, d, 1, strings.Repeat("r", 64))
	isErr(t, "Sync", d.Sync(), api.OK)
	room[0] = 'z'
	reads(t, d, 1, strings.Repeat("r", 64))
}

// P2.3, P2.7: what is answered is new each time, spare room too.
func TestAnswersAreNew(t *testing.T) {
	d := made(t, 4, 64)
	spoil := func(n int) {
		b, _ := d.Read(n)
		c, _ := d.Read(n)
		b = b[:cap(b)]
		for i := range b {
			b[i] = 0xee
		}
		if bytes.IndexByte(c, 0xee) >= 0 {
			t.Errorf("Read(%d): two answers share bytes", n)
		}
	}
	isErr(t, "Write", d.Write(0, []byte("safe")), api.OK)
	isErr(t, "Sync", d.Sync(), api.OK)
	isErr(t, "Write", d.Write(1, []byte("unsafe")), api.OK)
	isErr(t, "Write", d.Write(3, []byte("unsafe")), api.OK)
	for n := range 4 {
		spoil(n)
	}
	reads(t, d, 0, "safe")
	reads(t, d, 1, "unsafe")
	reads(t, d, 2, "")
	reads(t, d, 3, "unsafe")

	u := d.Unsafe()
	for i := range u[:cap(u)] {
		u[:cap(u)][i] = 77
	}
	isUnsafe(t, d, 1, 3)
}
