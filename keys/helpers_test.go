package keys_test

import (
	"fmt"
	"math"
	"math/big"
	"math/rand"
	"slices"
	"strings"
	"testing"

	"klaxon/api"
	"klaxon/keys"
)

// put is the key of a list that Put must take.
func put(t *testing.T, l ...api.Part) string {
	t.Helper()
	s, err := keys.Put(l...)
	if err != api.OK {
		t.Fatalf("Put(%s): error %d", show(l), err)
	}
	return s
}

// show writes texts as Go does, for their bytes are often no letters.
func show(l []api.Part) string { return fmt.Sprintf("%#v", l) }

// many is so many parts that are the number 0.
func many(n int) []api.Part { return slices.Repeat([]api.Part{keys.Int(0)}, n) }

// saidInt is what P7.2 says of a number, reckoned without a bound.
func saidInt(n int64) string {
	if n >= 0 {
		p := big.NewInt(n).Bytes()
		return string(append([]byte{byte(0x80 + len(p))}, p...))
	}
	p := new(big.Int).Sub(big.NewInt(-1), big.NewInt(n)).Bytes()
	b := []byte{byte(0x7f - len(p))}
	for _, c := range p {
		b = append(b, 0xff-c)
	}
	return string(b)
}

// saidText is what P7.2 says of a text.
func saidText(s string) string {
	said := "\xa0"
	for len(s) > 8 {
		said += s[:8] + "\x09"
		s = s[8:]
	}
	return said + s + strings.Repeat("\x00", 8-len(s)) + string([]byte{byte(len(s))})
}

// said is what P7.2 says of parts that Put takes.
func said(l []api.Part) string {
	all := ""
	for _, p := range l {
		if p.Kind == api.PartInt {
			all += saidInt(p.Int)
		} else {
			all += saidText(p.Text)
		}
	}
	return all
}

// edgeNumbers is the numbers at which a further byte is needed, on both sides
// of 0, with those beside them, rising.
func edgeNumbers() []int64 {
	l := []int64{0, 1, -1, -2, 300, -300, math.MaxInt64, math.MaxInt64 - 1, math.MinInt64, math.MinInt64 + 1}
	for bit := 8; bit < 64; bit += 8 {
		edge := int64(1) << bit
		l = append(l, edge-2, edge-1, edge, edge+1, -edge-2, -edge-1, -edge, -edge+1)
	}
	slices.Sort(l)
	return slices.Compact(l)
}

// edgeTexts is texts of all lengths about a group's end, filled with bytes that
// stand in keys for something else, and with one of them at the end, rising.
func edgeTexts() []string {
	var l []string
	for _, length := range []int{0, 1, 2, 7, 8, 9, 10, 15, 16, 17, 18, 247, 248, 249, api.MaxPart - 1, api.MaxPart} {
		for _, c := range []string{"a", "\x00", "\x01", "\x08", "\x09", "\x0a", "\x80", "\xa0", "\xff"} {
			s := strings.Repeat(c, length)
			l = append(l, s)
			for _, last := range []string{"\x00", "\x01", "\x08", "\x09", "\xff", "b"} {
				if length > 0 {
					l = append(l, s[:length-1]+last)
				}
			}
		}
	}
	slices.Sort(l)
	return slices.Compact(l)
}

// edgeParts is all of these as parts, in their order.
func edgeParts() []api.Part {
	var l []api.Part
	for _, n := range edgeNumbers() {
		l = append(l, keys.Int(n))
	}
	for _, s := range edgeTexts() {
		l = append(l, keys.Text(s))
	}
	return l
}

// anyPart is mostly one of few, so that lists often begin alike.
func anyPart(r *rand.Rand) api.Part {
	switch r.Intn(6) {
	case 0:
		return keys.Int(int64(r.Uint64()) >> r.Intn(64))
	case 1:
		p := make([]byte, r.Intn(api.MaxPart+1))
		r.Read(p)
		return keys.Text(string(p))
	case 2, 3:
		return keys.Int([]int64{-257, -256, -1, 0, 1, 255, 256}[r.Intn(7)])
	}
	p := make([]byte, r.Intn(20))
	for i := range p {
		p[i] = []byte{0, 9, 0xff, 'a'}[r.Intn(4)]
	}
	return keys.Text(string(p))
}

func anyList(r *rand.Rand) []api.Part {
	l := make([]api.Part, r.Intn(api.MaxParts+1))
	for i := range l {
		l[i] = anyPart(r)
	}
	return l
}

// anyLists is lists of which many begin with others of them.
func anyLists(r *rand.Rand, n int) [][]api.Part {
	l := [][]api.Part{nil}
	for len(l) < n {
		elder := l[r.Intn(len(l))]
		next := append(slices.Clone(elder[:r.Intn(len(elder)+1)]), anyPart(r))
		l = append(l, next[:min(len(next), api.MaxParts)])
	}
	return l
}
