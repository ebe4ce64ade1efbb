package disk_test

import (
	"math/rand"
	"slices"
	"testing"

	"klaxon/api"
	"klaxon/disk"
)

// told is a disk as the chapter tells it: of each sector both what was safe
// last and what was written last.
type told struct {
	size    int
	safe    []string
	written []string
	unsafe  []bool
	off     bool
	armed   bool
	after   int
	ops     int
}

func newTold(sectors, size int) *told {
	m := &told{size: size, safe: make([]string, sectors), written: make([]string, sectors), unsafe: make([]bool, sectors)}
	for n := range sectors {
		m.safe[n] = string(make([]byte, size))
		m.written[n] = m.safe[n]
	}
	return m
}

func (m *told) operation() bool {
	if m.armed && m.after == 0 {
		m.off = true
	}
	if m.off {
		return false
	}
	m.after--
	m.ops++
	return true
}

func (m *told) write(n int, text string) api.Errno {
	if n < 0 || n >= len(m.safe) {
		return api.ErrArg
	}
	if len(text) > m.size {
		return api.ErrLong
	}
	if !m.operation() {
		return api.ErrDead
	}
	m.written[n] = text + string(make([]byte, m.size-len(text)))
	m.unsafe[n] = true
	return api.OK
}

func (m *told) sync() api.Errno {
	if !m.operation() {
		return api.ErrDead
	}
	copy(m.safe, m.written)
	clear(m.unsafe)
	return api.OK
}

func (m *told) arm(after int) {
	if !m.off {
		m.armed, m.after = after >= 0, after
	}
}

func (m *told) crash(keep []int, torn []api.Torn) {
	for n := range m.safe {
		if !m.unsafe[n] {
			continue
		}
		lasts := 0
		if i := slices.IndexFunc(torn, func(t api.Torn) bool { return t.Sector == n }); i >= 0 {
			lasts = max(0, min(m.size, torn[i].Bytes))
		}
		if slices.Contains(keep, n) {
			lasts = m.size
		}
		m.safe[n] = m.written[n][:lasts] + m.safe[n][lasts:]
	}
	copy(m.written, m.safe)
	clear(m.unsafe)
	m.off, m.armed = false, false
}

func (m *told) listUnsafe() []int {
	var l []int
	for n, is := range m.unsafe {
		if is {
			l = append(l, n)
		}
	}
	return l
}

// lists cuts text into some lists, of which some are empty.
func lists(r *rand.Rand, text string) [][]byte {
	var l [][]byte
	for len(text) > 0 {
		cut := r.Intn(len(text) + 1)
		l = append(l, []byte(text[:cut]))
		text = text[cut:]
	}
	return l
}

func randomText(r *rand.Rand, most int) string {
	b := make([]byte, r.Intn(most+1))
	r.Read(b)
	return string(b)
}

func randomCrash(r *rand.Rand, sectors, size int) ([]int, []api.Torn) {
	var keep []int
	for range r.Intn(4) {
		keep = append(keep, r.Intn(sectors+2)-1)
	}
	var torn []api.Torn
	for range r.Intn(5) {
		torn = append(torn, api.Torn{Sector: r.Intn(sectors+2) - 1, Bytes: r.Intn(size+20) - 10})
	}
	return keep, torn
}

func holdAgainst(t *testing.T, d *disk.Disk, m *told) {
	t.Helper()
	isDead(t, d, m.off)
	isOps(t, d, m.ops)
	isUnsafe(t, d, m.listUnsafe()...)
	for n := -1; n <= len(m.safe); n++ {
		b, err := d.Read(n)
		switch {
		case n < 0 || n == len(m.safe):
			isErr(t, "Read", err, api.ErrArg)
		case m.off:
			isErr(t, "Read", err, api.ErrDead)
		case err != api.OK || string(b) != m.written[n]:
			t.Fatalf("Read(%d): %x, error %d, want %x", n, b, err, m.written[n])
		}
	}
}

// P2.1 to P2.8: whatever is done, in whatever order.
func TestDiskIsAsTold(t *testing.T) {
	for seed := range int64(300) {
		r := rand.New(rand.NewSource(seed))
		sectors, size := 1+r.Intn(7), api.MinSector+r.Intn(20)
		d, m := made(t, sectors, size), newTold(sectors, size)
		for range 120 {
			switch r.Intn(12) {
			case 0, 1:
				isErr(t, "Sync", d.Sync(), m.sync())
			case 2:
				after := r.Intn(12) - 2
				d.Arm(after)
				m.arm(after)
			case 3:
				keep, torn := randomCrash(r, sectors, size)
				d.Crash(keep, torn...)
				m.crash(keep, torn)
			default:
				n, text := r.Intn(sectors+2)-1, randomText(r, size+3)
				isErr(t, "Write", d.Write(n, lists(r, text)...), m.write(n, text))
			}
			holdAgainst(t, d, m)
		}
		if t.Failed() {
			t.Fatalf("seed %d", seed)
		}
	}
}

// P2.7: the unsafe sectors are rising however many there are.
func TestManyUnsafe(t *testing.T) {
	d := made(t, api.MaxSectors, api.MinSector)
	r := rand.New(rand.NewSource(1))
	for _, n := range r.Perm(api.MaxSectors) {
		if err := d.Write(n, []byte{byte(n), byte(n >> 8), 1}); err != api.OK {
			t.Fatal(n, err)
		}
	}
	u := d.Unsafe()
	if len(u) != api.MaxSectors || !slices.IsSorted(u) || u[0] != 0 || u[len(u)-1] != api.MaxSectors-1 {
		t.Errorf("%d unsafe sectors", len(u))
	}
	isErr(t, "Sync", d.Sync(), api.OK)
	d.Crash(nil)
	for _, n := range []int{0, 1, 256, api.MaxSectors - 1} {
		reads(t, d, n, string([]byte{byte(n), byte(n >> 8), 1}))
	}
}
