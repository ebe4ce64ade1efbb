package fixed_test

import (
	"bytes"
	"math"
	"testing"

	"klaxon/fixed"
)

func TestLay(t *testing.T) {
	for _, c := range []struct {
		n    uint64
		want string
	}{
		{0, ""}, {7, ""}, {0, "\x00"}, {1, "\x01"}, {255, "\xff"}, {256, "\x00"}, {300, "\x2c"},
		{1, "\x00\x01"}, {300, "\x01\x2c"}, {65536 + 300, "\x01\x2c"},
		{0x01020304, "\x01\x02\x03\x04"}, {0x0102030405060708, "\x05\x06\x07\x08"},
		{0x0102030405060708, "\x01\x02\x03\x04\x05\x06\x07\x08"},
		{math.MaxUint64, "\xff\xff\xff\xff\xff\xff\xff\xff"},
		{0x0102030405060708, "\x00\x01\x02\x03\x04\x05\x06\x07\x08"},
	} {
		p := bytes.Repeat([]byte{0xa5}, len(c.want)+2)
		fixed.Lay(p[1:1+len(c.want)], c.n)
		if string(p) != "\xa5"+c.want+"\xa5" {
			t.Errorf("Lay(%d bytes, %d): %x", len(c.want), c.n, p)
		}
	}
}

func TestOf(t *testing.T) {
	for _, c := range []struct {
		p    string
		want uint64
	}{
		{"", 0}, {"\x00", 0}, {"\xff", 255}, {"\x01\x2c", 300}, {"\x00\x00\x01", 1}, {"\x80\x00\x00\x00", 1 << 31},
		{"\x01\x02\x03\x04\x05\x06\x07\x08", 0x0102030405060708},
		{"\xff\xff\xff\xff\xff\xff\xff\xff", math.MaxUint64},
		{"\x09\x01\x02\x03\x04\x05\x06\x07\x08", 0x0102030405060708},
	} {
		if n := fixed.Of([]byte(c.p)); n != c.want {
			t.Errorf("Of(%x): %d, want %d", c.p, n, c.want)
		}
	}
}
