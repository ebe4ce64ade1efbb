package page_test

import (
	"bytes"
	"math/rand"
	"slices"
	"testing"

	"klaxon/api"
	"klaxon/page"
)

func anyPage(r *rand.Rand, room int) api.Page {
	load := make([]byte, r.Intn(room+1))
	r.Read(load)
	return api.Page{Kind: byte(1 + r.Intn(255)), Id: r.Uint32() >> r.Intn(32), Load: load}
}

// P3.7: through the sizes, with an empty load, a full one, and one between.
func TestThereAndBack(t *testing.T) {
	r := rand.New(rand.NewSource(3))
	for size := api.MinSector; size <= api.MaxPage; size += 1 + r.Intn(40) {
		x := anyPage(r, page.Room(size))
		for _, load := range [][]byte{x.Load, nil, bytes.Repeat([]byte{x.Kind}, page.Room(size))} {
			x.Load = load
			b := laid(t, size, x)
			if y := got(t, b); !same(x, y) {
				t.Errorf("%d bytes: {%d, %d, %x}, want {%d, %d, %x}", size, y.Kind, y.Id, y.Load, x.Kind, x.Id, x.Load)
			}
		}
	}
}

// P3.7: each Kind, and each bit of an Id.
func TestThereAndBackOfHead(t *testing.T) {
	for kind := 1; kind < 256; kind++ {
		for bit := range 32 {
			x := api.Page{Kind: byte(kind), Id: 1 << bit, Load: []byte{0, byte(bit), 0}}
			if y := got(t, laid(t, 64, x)); !same(x, y) {
				t.Errorf("%v, want %v", y, x)
			}
		}
	}
}

// P3.3, P3.7: where Get finds a page, Put lays just these bytes.
func TestBackAndThere(t *testing.T) {
	r := rand.New(rand.NewSource(4))
	found := 0
	for range 20000 {
		size := 64 + r.Intn(20)
		load := make([]byte, r.Intn(size-11+1))
		r.Read(load)
		b := forged(size, byte(r.Intn(3)), r.Uint32(), uint16(r.Intn(size)), string(load))
		x, err := page.Get(b)
		if err != api.OK {
			continue
		}
		found++
		if !bytes.Equal(laid(t, size, x), b) {
			t.Fatalf("Get(%x): %v", b, x)
		}
	}
	if found == 0 || found == 20000 {
		t.Errorf("%d pages found", found)
	}
}

// turn turns the bits of pattern from the bit first on, in a copy; the lowest
// bit of a byte is its first.
func turn(b []byte, first int, pattern uint32) []byte {
	b = slices.Clone(b)
	for i := range 32 {
		if pattern>>i&1 == 1 {
			b[(first+i)/8] ^= 1 << ((first + i) % 8)
		}
	}
	return b
}

// P3.8: at each place of small pages, one bit, two at the ends of the 32, all
// of them, and many between.
func TestTurnedIsRefused(t *testing.T) {
	r := rand.New(rand.NewSource(5))
	for _, size := range []int{64, 65, 100} {
		for _, x := range []api.Page{{Kind: 1}, {Kind: 'k', Id: 5, Load: []byte("ab")}, anyPage(r, size-11), {Kind: 255, Id: 1, Load: make([]byte, size-11)}} {
			b := laid(t, size, x)
			last := (size - 4) * 8
			for bit := range last {
				noPage(t, "a page with a bit turned", turn(b, bit, 1))
			}
			for first := 0; first+32 <= last; first++ {
				noPage(t, "a page with bits turned", turn(b, first, 1|1<<31))
				noPage(t, "a page with bits turned", turn(b, first, 1<<32-1))
				noPage(t, "a page with bits turned", turn(b, first, r.Uint32()|1))
			}
		}
	}
}

// P3.8: at some places of the greatest page, its first and last ones too.
func TestTurnedIsRefusedInGreatPage(t *testing.T) {
	r := rand.New(rand.NewSource(6))
	b := laid(t, 8192, anyPage(r, 8181))
	last := 8188*8 - 32
	for _, first := range []int{0, 1, 8, 24, 40, 55, 56, last - 1, last} {
		for range 20 {
			noPage(t, "a page with bits turned", turn(b, first, r.Uint32()|1))
		}
	}
	for range 500 {
		noPage(t, "a page with bits turned", turn(b, r.Intn(last+1), r.Uint32()|1))
	}
}
