package meta_test

import (
	"bytes"
	"math"
	"math/rand"
	"slices"
	"testing"

	"klaxon/api"
	"klaxon/disk"
	"klaxon/meta"
)

func anyMeta(r *rand.Rand, seq uint64) api.Meta {
	return api.Meta{Seq: seq, Root: r.Intn(api.MaxPages + 1), Keys: int(r.Int31()) >> r.Intn(31), Depth: r.Intn(65)}
}

// P4.1, P4.2: there and back, at the end of a sector's bytes too.
func TestThereAndBack(t *testing.T) {
	r := rand.New(rand.NewSource(2))
	for range 5000 {
		m := anyMeta(r, r.Uint64()>>r.Intn(64)|1<<r.Intn(3))
		isMeta(t, meta.Put(m), m)
		isMeta(t, append(meta.Put(m), make([]byte, r.Intn(1000))...), m)
	}
}

// P4.2: where Get finds a meta, Put lays just these bytes.
func TestBackAndThere(t *testing.T) {
	r := rand.New(rand.NewSource(3))
	found := 0
	for range 20000 {
		seq := uint64(r.Intn(3))
		b := forged(seq, uint32(16380+r.Intn(8)), 1<<31-4+uint64(r.Intn(8)), uint32(60+r.Intn(8)), seq+uint64(r.Intn(4)/3))
		m, err := meta.Get(b)
		if err != api.OK {
			noMeta(t, "what is none", b)
			continue
		}
		found++
		if !bytes.Equal(meta.Put(m), b) {
			t.Fatalf("Get(%x): %v", b, m)
		}
	}
	if found < 100 || found > 19900 {
		t.Errorf("%d metas found", found)
	}
}

// tornFrom is a sector with the first bytes of fresh, and the others of old.
func tornFrom(fresh, old []byte, cut int) []byte {
	return slices.Concat(fresh[:cut], old[cut:])
}

// sectorOf is a sector of 64 bytes with that meta.
func sectorOf(m api.Meta) []byte { return append(meta.Put(m), make([]byte, 64-36)...) }

// oneOrTheOther holds that a torn sector is one of the two metas only if it has
// just its bytes, and else none.
func oneOrTheOther(t *testing.T, fresh, old []byte, cut int) {
	t.Helper()
	b := tornFrom(fresh, old, cut)
	m, err := meta.Get(b)
	switch {
	case bytes.Equal(b, fresh):
		if err != api.OK || !bytes.Equal(sectorOf(m), fresh) {
			t.Errorf("cut at %d, %x is whole: %v, error %d", cut, b, m, err)
		}
	case bytes.Equal(b, old) && !bytes.Equal(old, make([]byte, 64)):
		if err != api.OK || !bytes.Equal(sectorOf(m), old) {
			t.Errorf("cut at %d, %x is as it was: %v, error %d", cut, b, m, err)
		}
	default:
		noMeta(t, "a torn meta", b)
	}
}

// P4.5: with each number of torn bytes, over the meta with a Seq lower by 2,
// whether its other numbers are the same or not.
func TestTornOverTheElder(t *testing.T) {
	r := rand.New(rand.NewSource(4))
	for _, seq := range append(seqs(), 4, 130, 1<<16+1, 1<<24, 1<<24+1, 1<<40, 1<<48+1, 1<<63+1) {
		if seq < 3 {
			continue
		}
		metas := []api.Meta{{Seq: seq}, numbered(seq), anyMeta(r, seq)}
		for _, m := range metas {
			lower := m
			lower.Seq -= 2
			for _, old := range []api.Meta{lower, {Seq: seq - 2}, numbered(seq - 2), anyMeta(r, seq-2)} {
				for cut := range 65 {
					oneOrTheOther(t, sectorOf(m), sectorOf(old), cut)
				}
			}
		}
	}
}

// P4.5: the like over bytes 0.
func TestTornOverZeros(t *testing.T) {
	r := rand.New(rand.NewSource(5))
	for _, seq := range append(seqs(), 1<<24, 1<<40, 1<<56, 1<<56+1<<8) {
		for _, m := range []api.Meta{{Seq: seq}, numbered(seq), anyMeta(r, seq)} {
			for cut := range 65 {
				oneOrTheOther(t, sectorOf(m), make([]byte, 64), cut)
			}
		}
	}
}

// P4.5: very many, at random.
func TestTornAtRandom(t *testing.T) {
	r := rand.New(rand.NewSource(6))
	for range 20000 {
		seq := max(r.Uint64()>>r.Intn(64), 3)
		old := sectorOf(anyMeta(r, seq-2))
		if r.Intn(4) == 0 {
			old = make([]byte, 64)
		}
		oneOrTheOther(t, sectorOf(anyMeta(r, seq)), old, r.Intn(65))
	}
}

// standingAt is a disk on which the best meta is safe, and the one ahead of it
// (if there is one), or bytes 0 where that would stand.
func standingAt(t *testing.T, per int, best api.Meta, elder bool) *disk.Disk {
	t.Helper()
	d := made(t, 9, 64)
	if elder && best.Seq > 1 {
		writes(t, d, per, numbered(best.Seq-1))
	}
	writes(t, d, per, best)
	syncs(t, d)
	return d
}

// P4.6: the power fails behind the Write and ahead of a Sync, and the sector is
// lost, whole, or torn at any byte.
func TestPowerBehindWrite(t *testing.T) {
	for _, seq := range seqs() {
		if seq == math.MaxUint64 {
			continue
		}
		before, after := numbered(seq), numbered(seq+1)
		sector := int(after.Seq%2) * 2
		for _, elder := range []bool{true, false} {
			d := standingAt(t, 2, before, elder)
			writes(t, d, 2, after)
			isBest(t, d, 2, after)
			d.Crash(nil)
			isBest(t, d, 2, before)
			writes(t, d, 2, after)
			d.Crash([]int{sector})
			isBest(t, d, 2, after)
			for bytesLeft := -1; bytesLeft <= 65; bytesLeft++ {
				d := standingAt(t, 2, before, elder)
				writes(t, d, 2, after)
				d.Crash(nil, api.Torn{Sector: sector, Bytes: bytesLeft})
				if !isEither(t, d, before, after) && bytesLeft >= api.MetaLen {
					t.Errorf("Seq %d, %d bytes left: it is not the one that was written", seq, bytesLeft)
				}
			}
		}
	}
}

// isEither holds that the best is one of the two, and tells whether it is the
// second.
func isEither(t *testing.T, d *disk.Disk, before, after api.Meta) bool {
	t.Helper()
	m, err := meta.Best(d, 2)
	if err != api.OK || m != before && m != after {
		t.Errorf("Best: %v, error %d, want %v or %v", m, err, before, after)
	}
	return m == after
}

// P4.6: the power fails at the Write, at the Sync behind it, or behind both.
func TestPowerAroundWriteAndSync(t *testing.T) {
	for _, seq := range []uint64{1, 2, 254, 255, 256, 1<<32 - 1} {
		before, after := numbered(seq), numbered(seq+1)
		sector := int(after.Seq%2) * 2
		for cut := -1; cut <= 64; cut++ {
			torn := api.Torn{Sector: sector, Bytes: cut}
			d := standingAt(t, 2, before, true)
			d.Arm(0)
			isErr(t, "Write", meta.Write(d, 2, after), api.ErrDead)
			noBest(t, d, 2, api.ErrDead)
			d.Crash([]int{0, 2}, torn)
			isBest(t, d, 2, before)

			d.Arm(1)
			writes(t, d, 2, after)
			isErr(t, "Sync", d.Sync(), api.ErrDead)
			noBest(t, d, 2, api.ErrDead)
			d.Crash(nil, torn)
			isEither(t, d, before, after)

			d = standingAt(t, 2, before, true)
			d.Arm(2)
			writes(t, d, 2, after)
			syncs(t, d)
			isErr(t, "Write", meta.Write(d, 2, numbered(seq+2)), api.ErrDead)
			d.Crash(nil, torn)
			isBest(t, d, 2, after)
		}
	}
}

// P4.6: again and again, with whatever is left at each crash; what was synced
// is never behind.
func TestManyCrashes(t *testing.T) {
	r := rand.New(rand.NewSource(7))
	for range 200 {
		d := made(t, 9, 64)
		best := anyMeta(r, 1+r.Uint64()>>(1+r.Intn(63)))
		writes(t, d, 2, best)
		syncs(t, d)
		for range 60 {
			fresh := anyMeta(r, best.Seq+1)
			d.Arm(r.Intn(4))
			isSafe := meta.Write(d, 2, fresh) == api.OK && d.Sync() == api.OK
			d.Crash(nil, api.Torn{Sector: int(fresh.Seq%2) * 2, Bytes: r.Intn(66) - 1})
			if isEither(t, d, best, fresh) {
				best = fresh
			} else if isSafe {
				t.Fatalf("Seq %d was synced, and is not there", fresh.Seq)
			}
		}
	}
}
