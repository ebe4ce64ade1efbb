package rule_test

import (
	"strings"
	"testing"

	"klaxon/api"
	"klaxon/rule"
)

// P14.1: from 1 to MaxFolder bytes.
func TestNamesByLength(t *testing.T) {
	for _, c := range []string{"a", "m", "z", "0", "5", "9", "-"} {
		for n := range 60 {
			want := 1 <= n && n <= api.MaxFolder
			if s := strings.Repeat(c, n); rule.Name(s) != want {
				t.Errorf("%q of %d bytes: %v", s, n, !want)
			}
		}
		if rule.Name(strings.Repeat(c, 1<<20)) {
			t.Errorf("%q, 2^20 times, is a name", c)
		}
	}
}

// P14.1: each byte, at each place of names of all lengths.
func TestNamesByByte(t *testing.T) {
	const may = "abcdefghijklmnopqrstuvwxyz0123456789-"
	for c := range 256 {
		want := strings.IndexByte(may, byte(c)) >= 0
		for n := 1; n <= api.MaxFolder; n++ {
			for at := range n {
				b := []byte(strings.Repeat("a", n))
				b[at] = byte(c)
				if rule.Name(string(b)) != want {
					t.Fatalf("%q: %v", b, !want)
				}
			}
		}
	}
}

// P14.1
func TestNames(t *testing.T) {
	for _, s := range []string{"ops", "a", "0", "-", "--", "-a", "a-", "0-9", "disk-1", "abcdefghijklmnopqrstuvwx", "yz0123456789-"} {
		if !rule.Name(s) {
			t.Errorf("%q is no name", s)
		}
	}
	for _, s := range noNames() {
		if rule.Name(s) {
			t.Errorf("%.100q is a name", s)
		}
	}
}
