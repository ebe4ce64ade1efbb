package route_test

import (
	"math"
	"reflect"
	"strconv"
	"strings"
	"testing"

	"klaxon/api"
	"klaxon/route"
)

// byHand is a tree, and its bytes, written by hand.
func byHand() (api.Route, string) {
	r := api.Route{Receiver: "all", GroupBy: []string{"host", "a"}, Wait: 300, Interval: 0, Repeat: api.MaxWait, Kids: []api.Route{
		{Matchers: match("sev", "=", "\xffcrit", "b", "!^", ""), Receiver: "page-1", Wait: 1, Interval: 128, Repeat: 1, Continue: true,
			Kids: []api.Route{{Matchers: match("b", "^=", "1"), Receiver: "0", GroupBy: []string{"_"}, Repeat: 9}}},
		{Receiver: "mail", Wait: 127, Interval: 2, Repeat: 3},
	}}
	return r, "\x00" + "\x03all" + "\x02\x04host\x01a" + "+\x82\x2c" + "+\x00" + "+\x86\x8d\x20" + "\x00" + "\x02" +
		"\x02" + "\x03sev\x01=\x05\xffcrit" + "\x01b\x02!^\x00" + "\x06page-1" + "\x00" + "+\x01" + "+\x81\x00" + "+\x01" + "\x01" + "\x01" +
		"\x01" + "\x01b\x02^=\x011" + "\x010" + "\x01\x01_" + "+\x00" + "+\x00" + "+\x09" + "\x00" + "\x00" +
		"\x00" + "\x04mail" + "\x00" + "+\x7f" + "+\x02" + "+\x03" + "\x00" + "\x00"
}

// P20.3: to the byte.
func TestPutOfATree(t *testing.T) {
	r, want := byHand()
	b, err := route.Put(r)
	if err != api.OK || string(b) != want {
		t.Errorf("Put: %q, error %d, want %q", b, err, want)
	}
	got, err := route.Get([]byte(want))
	if err != api.OK || !same(got, r) {
		t.Errorf("Get: %+v, error %d", got, err)
	}
}

// P20.3: what each field makes of the bytes, of a root alone and of a Kid, and no
// other field does.
func TestPutFieldByField(t *testing.T) {
	const plain = "\x00\x01a\x00+\x00+\x00+\x01\x00\x00"
	for _, c := range []struct {
		what   string
		inRoot bool
		do     func(x *api.Route)
		want   string
	}{
		{"none", true, func(x *api.Route) {}, plain},
		{"Matchers", false, func(x *api.Route) { x.Matchers = match("b", "=", "xy", "a", "!=", "") }, "\x02\x01b\x01=\x02xy\x01a\x02!=\x00" + "\x01a\x00+\x00+\x00+\x01\x00\x00"},
		{"a long matcher", false, func(x *api.Route) { x.Matchers = match(strings.Repeat("n", 64), "^=", strings.Repeat("v", 128)) },
			"\x01\x40" + strings.Repeat("n", 64) + "\x02^=\x81\x00" + strings.Repeat("v", 128) + "\x01a\x00+\x00+\x00+\x01\x00\x00"},
		{"Receiver", true, func(x *api.Route) { x.Receiver = "x-9" }, "\x00\x03x-9\x00+\x00+\x00+\x01\x00\x00"},
		{"a long Receiver", true, func(x *api.Route) { x.Receiver = strings.Repeat("z", 24) }, "\x00\x18" + strings.Repeat("z", 24) + "\x00+\x00+\x00+\x01\x00\x00"},
		{"GroupBy", true, func(x *api.Route) { x.GroupBy = []string{"b", "_a"} }, "\x00\x01a\x02\x01b\x02_a+\x00+\x00+\x01\x00\x00"},
		{"GroupBy of MaxLabels", true, func(x *api.Route) { x.GroupBy = manyNames(api.MaxLabels) }, "\x00\x01a\x10" +
			"\x04n100\x04n101\x04n102\x04n103\x04n104\x04n105\x04n106\x04n107\x04n108\x04n109\x04n110\x04n111\x04n112\x04n113\x04n114\x04n115" + "+\x00+\x00+\x01\x00\x00"},
		{"Wait", true, func(x *api.Route) { x.Wait = api.MaxWait }, "\x00\x01a\x00+\x86\x8d\x20+\x00+\x01\x00\x00"},
		{"Interval", true, func(x *api.Route) { x.Interval = 128 }, "\x00\x01a\x00+\x00+\x81\x00+\x01\x00\x00"},
		{"Repeat", true, func(x *api.Route) { x.Repeat = 16384 }, "\x00\x01a\x00+\x00+\x00+\x81\x80\x00\x00\x00"},
		{"Continue", false, func(x *api.Route) { x.Continue = true }, "\x00\x01a\x00+\x00+\x00+\x01\x01\x00"},
		{"Kids", true, func(x *api.Route) { x.Kids = []api.Route{to("b", to("c")), to("d")} }, "\x00\x01a\x00+\x00+\x00+\x01\x00\x02" +
			"\x00\x01b\x00+\x00+\x00+\x01\x00\x01" + "\x00\x01c\x00+\x00+\x00+\x01\x00\x00" + "\x00\x01d\x00+\x00+\x00+\x01\x00\x00"},
	} {
		x := to("a")
		c.do(&x)
		isBytes(t, c.what+" of a Kid", to("z", x), "\x00\x01z\x00+\x00+\x00+\x01\x00\x01"+c.want)
		isBytes(t, c.what+" of a second Kid", to("z", to("a"), x), "\x00\x01z\x00+\x00+\x00+\x01\x00\x02"+plain+c.want)
		if c.inRoot {
			isBytes(t, c.what, x, c.want)
		} else {
			isNoTree(t, c.what+" of a root", c.want)
		}
	}
}

func isBytes(t *testing.T, what string, r api.Route, want string) {
	t.Helper()
	if b, err := route.Put(r); err != api.OK || string(b) != want {
		t.Errorf("%s: Put: %q, error %d, want %q", what, b, err, want)
	}
	if got, err := route.Get([]byte(want)); err != api.OK || !same(got, r) {
		t.Errorf("%s: Get: %+v, error %d", what, got, err)
	}
}

// greatest is a tree in which there is as much as there may be of all.
func greatest(r api.Route) api.Route {
	for i, x := range flat(&r) {
		x.Receiver = strings.Repeat("r", api.MaxFolder)
		x.Wait, x.Interval, x.Repeat = api.MaxWait, api.MaxWait, api.MaxWait
		for j := range api.MaxLabels {
			name := "n" + strconv.Itoa(100+j)
			name += strings.Repeat("x", api.MaxName-len(name))
			x.GroupBy = append(x.GroupBy, name)
			if i > 0 {
				x.Continue = true
				x.Matchers = append(x.Matchers, api.Matcher{Name: name, Op: "!^", Value: strings.Repeat("\xff", api.MaxLabel)})
			}
		}
	}
	return r
}

// P20.3: as many as there may be of all.
func TestPutOfTheGreatestTrees(t *testing.T) {
	for what, r := range shapes(api.MaxRoutes) {
		r = greatest(r)
		accepts(t, what, r)
		b, _ := route.Put(r)
		// Of each name a byte ahead, of Receiver too, of Value two, of Op one; the three
		// numbers, Continue and the times with 1 + 3 bytes.
		least := 1 + (1 + api.MaxFolder) + 1 + api.MaxLabels*(1+api.MaxName) + 3*4 + 1 + 1
		if want := api.MaxRoutes*least + (api.MaxRoutes-1)*api.MaxLabels*(1+api.MaxName+1+2+2+api.MaxLabel); len(b) != want {
			t.Errorf("%s: %d bytes, want %d", what, len(b), want)
		}
		if got, err := route.Get(b[:len(b)-1]); err != api.ErrRoute || !reflect.DeepEqual(got, api.Route{}) {
			t.Errorf("%s, cut off: %s, error %d", what, brief(got), err)
		}
	}
}

// kinds is trees in the pieces of their bytes.
func kinds() map[string][]piece {
	hand, _ := byHand()
	return map[string][]piece{
		"a root alone": pieces(to("a")), "by hand": pieces(hand), "some tree": pieces(marked(someTree())),
		"with much": pieces(to("a", by(of(manyMatchers(api.MaxLabels), "b"), manyNames(api.MaxLabels)...))),
		"broad":     pieces(broad(api.MaxRoutes)), "deep": pieces(deep(api.MaxRoutes)),
	}
}

// instead is the bytes with another piece at that place.
func instead(all []piece, at int, s string) string {
	return joined(all[:at]) + s + joined(all[at+1:])
}

// P20.3: bytes that are cut off at each place, and bytes behind the end.
func TestGetOfBytesThatEndElsewhere(t *testing.T) {
	for what, all := range kinds() {
		b := joined(all)
		for cut := range len(b) {
			isNoTree(t, what+" cut off", b[:cut])
		}
		for c := range 256 {
			isNoTree(t, what+" with a byte behind", b+string([]byte{byte(c)}))
		}
		isNoTree(t, what+" twice", b+b)
		isNoTree(t, what+" without its first byte", b[1:])
		for at, p := range all {
			isNoTree(t, what+" without "+p.name, instead(all, at, ""))
		}
	}
	for _, b := range [][]byte{nil, {}, make([]byte, 0, 4)} {
		if r, err := route.Get(b); err != api.ErrRoute || !reflect.DeepEqual(r, api.Route{}) {
			t.Errorf("Get of no bytes: %+v, error %d", r, err)
		}
	}
}

// P20.3: numbers that are not in their fewest bytes, or in no bytes that are a
// number at all.
func TestGetOfNumbersInOtherBytes(t *testing.T) {
	for what, all := range kinds() {
		for at, p := range all {
			what := what + ", " + p.name
			switch p.kind {
			case number, text:
				isNoTree(t, what+" with a digit 0 ahead", instead(all, at, "\x80"+p.bytes))
				isNoTree(t, what+" with two digits 0 ahead", instead(all, at, "\x80\x80"+p.bytes))
				isNoTree(t, what+" with a sign", instead(all, at, "+"+p.bytes))
				isNoTree(t, what+" of 2^64 and more", instead(all, at, "\x82"+strings.Repeat("\x80", 8)+p.bytes))
				isNoTree(t, what+" without an end", instead(all, at, strings.Repeat("\xff", 12)))
			case signed:
				isNoTree(t, what+" with a digit 0 ahead", instead(all, at, p.bytes[:1]+"\x80"+p.bytes[1:]))
				isNoTree(t, what+" without a sign", instead(all, at, p.bytes[1:]))
				isNoTree(t, what+" with another sign", instead(all, at, " "+p.bytes[1:]))
				isNoTree(t, what+" below 0", instead(all, at, "-"+p.bytes[1:]))
				isNoTree(t, what+" of - and 0", instead(all, at, "-\x00"))
				isNoTree(t, what+" of 2^63", instead(all, at, "+"+saidNumber(1<<63)))
				isNoTree(t, what+" of 2^64 - 1", instead(all, at, "-"+saidNumber(math.MaxUint64)))
				isNoTree(t, what+" of 2^64 and more", instead(all, at, "+\x82"+strings.Repeat("\x80", 8)+p.bytes[1:]))
			}
		}
	}
}

// P20.3: Continue is 1 or 0, and no other byte.
func TestGetOfContinue(t *testing.T) {
	found := 0
	for what, all := range kinds() {
		for at, p := range all {
			if p.kind != truth {
				continue
			}
			found++
			for c := 2; c < 256; c++ {
				isNoTree(t, what+", Continue of "+strconv.Itoa(c), instead(all, at, string([]byte{byte(c)})))
			}
			for c, s := range []string{"\x00", "\x01"} {
				s = instead(all, at, s)
				r, err := route.Get([]byte(s))
				want, ok := saidGet(s)
				if !ok && err != api.ErrRoute || ok && (err != api.OK || !same(r, want)) {
					t.Errorf("%s, Continue of %d: %s, error %d", what, c, brief(r), err)
				}
			}
		}
	}
	if found < 10 {
		t.Errorf("only %d of Continue", found)
	}
}

// P20.3: numbers of matchers, of names, of Kids and of bytes that are not so many,
// or too great, up to those that nobody could count to.
func TestGetOfNumbersThatAreTooGreat(t *testing.T) {
	counts := []uint64{0, 1, 2, 3, 4, 5, 15, 16, 17, 31, 32, 33, 64, 127, 128, 129, 256, 257, 258, 1 << 31, 1 << 32, 1<<32 + 1, 1<<32 + 2, 1<<63 - 1, 1 << 63, 1<<63 + 2, math.MaxUint64 - 1, math.MaxUint64}
	for what, all := range kinds() {
		for at, p := range all {
			for _, n := range counts {
				s := saidNumber(n)
				what := what + ", " + p.name + " of " + strconv.FormatUint(n, 10)
				switch {
				case s == p.bytes:
				case p.kind == number:
					isNoTree(t, what, instead(all, at, s))
				case p.kind == text && s != p.bytes[:len(p.bytes)-textLength(p)]:
					isNoTree(t, what, instead(all, at, s+p.bytes[len(p.bytes)-textLength(p):]))
				}
			}
		}
	}
	// With as many behind it as it says.
	for n := api.MaxRoutes + 1; n < 100; n++ {
		for what, r := range shapes(n) {
			isNoTree(t, what+" of too many", saidTree(r))
		}
	}
	for n := api.MaxLabels + 1; n < 40; n++ {
		isNoTree(t, "too many matchers", saidTree(to("a", of(manyMatchers(n), "b"))))
		isNoTree(t, "too many names", saidTree(by(to("a"), manyNames(n)...)))
	}
}

// textLength is how many bytes of the piece are the text's own.
func textLength(p piece) int {
	ahead := 0
	for p.bytes[ahead] >= 128 {
		ahead++
	}
	return len(p.bytes) - ahead - 1
}

// P20.3: that bytes that nest far deeper than a tree, or announce far more, are
// none is told without going down to the last of them.
func TestGetOfBytesWithoutABound(t *testing.T) {
	const one = "\x00\x01a\x00+\x00+\x00+\x01\x00"
	isNoTree(t, "deep", strings.Repeat(one+"\x01", 1<<20)+one+"\x00")
	isNoTree(t, "each with the most", strings.Repeat(one+"\xff\xff\x7f", 1<<18))
	isNoTree(t, "broad", one+saidNumber(1<<20)+strings.Repeat(one+"\x00", 1<<20))
	isNoTree(t, "nothing behind", one+saidNumber(math.MaxUint64))
}

// P20.3: ints beyond all that a field may be, some of which would do if only
// their last bits counted.
func TestGetOfWideInts(t *testing.T) {
	wide := []int64{api.MaxWait + 1, 1<<17 + 1, 1<<32 + 1, 1<<40 + 1, 1<<56 + 2, 1<<62 + 3, -1, -1<<32 + 1, -1 << 40, math.MaxInt64, math.MinInt64, math.MinInt64 + 1}
	for what, all := range kinds() {
		for at, p := range all {
			if p.kind != signed {
				continue
			}
			for _, n := range wide {
				isNoTree(t, what+", "+p.name+" of "+strconv.FormatInt(n, 10), instead(all, at, saidSigned(n)))
			}
			for _, n := range []int64{1, 77, api.MaxWait} {
				if _, err := route.Get([]byte(instead(all, at, saidSigned(n)))); err != api.OK {
					t.Errorf("%s, %s of %d: error %d", what, p.name, n, err)
				}
			}
		}
	}
}

// P20.3: bytes of what is laid as a tree is, and is none.
func TestGetOfTreesThatAreNone(t *testing.T) {
	tree := someTree()
	for _, f := range faults() {
		for number := range flat(&tree) {
			isNoTree(t, f.what, saidTree(changed(tree, number, f.do)))
		}
	}
	isNoTree(t, "a root with Matchers", saidTree(of(sev("crit"), "a")))
	isNoTree(t, "a root with Continue", saidTree(goesOn(to("a"))))
}
