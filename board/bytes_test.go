package board_test

import (
	"math"
	"slices"
	"strconv"
	"strings"
	"testing"

	"klaxon/api"
	"klaxon/board"
)

// someBoard is one with an entry without Labels and one with two.
func someBoard() []api.Entry {
	quiet := api.Instance{State: api.StateAlerting, Since: 300, From: 5, Quiet: 301, Seen: 302, Value: num(-1500)}
	return []api.Entry{
		entry(nil, api.Instance{State: api.StateNormal, Since: 0, From: never, Quiet: never, Seen: 7, Value: null}),
		entry(list("h", "1", "sev", "\xffcrit"), quiet),
	}
}

// someBytes is the bytes of that board, written by hand.
const someBytes = "\x02" +
	"\x00" + "+\x01" + "+\x00" + "-\x01" + "-\x01" + "+\x07" + "+\x02" + "+\x00" +
	"\x02" + "\x01h\x011" + "\x03sev\x05\xffcrit" + "+\x03" + "+\x82\x2c" + "+\x05" + "+\x82\x2d" + "+\x82\x2e" + "+\x01" + "-\x8b\x5c"

// P18.4: to the byte.
func TestPutOfSomeBoard(t *testing.T) {
	p, err := board.Put(someBoard())
	if err != api.OK || string(p) != someBytes {
		t.Errorf("Put: %q, error %d, want %q", p, err, someBytes)
	}
	b, err := board.Get([]byte(someBytes))
	if err != api.OK || !sameBoard(b, someBoard()) {
		t.Errorf("Get: %+v, error %d", b, err)
	}
}

// P18.4: a board of none.
func TestPutOfNone(t *testing.T) {
	for _, b := range [][]api.Entry{nil, {}, many(3)[:0]} {
		if p, err := board.Put(b); err != api.OK || string(p) != "\x00" {
			t.Errorf("Put: %q, error %d", p, err)
		}
	}
	if b, err := board.Get([]byte("\x00")); err != api.OK || len(b) != 0 {
		t.Errorf("Get: %+v, error %d", b, err)
	}
}

// P18.4: what each field makes of the bytes, and no other field does.
func TestPutFieldByField(t *testing.T) {
	for _, c := range []struct {
		what string
		do   func(x *api.Entry)
		want string
	}{
		{"none", func(x *api.Entry) {}, "\x00" + "+\x03+\x01+\x02-\x01+\x04+\x01+\x05"},
		{"Labels", func(x *api.Entry) { x.Labels = host("12") }, "\x01\x01h\x0212" + "+\x03+\x01+\x02-\x01+\x04+\x01+\x05"},
		{"MaxLabels", func(x *api.Entry) { x.Labels = wide(api.MaxLabels) }, "\x10" +
			"\x05n1000\x010\x05n1001\x011\x05n1002\x012\x05n1003\x013\x05n1004\x014\x05n1005\x015\x05n1006\x016\x05n1007\x017" +
			"\x05n1008\x018\x05n1009\x019\x05n1010\x0210\x05n1011\x0211\x05n1012\x0212\x05n1013\x0213\x05n1014\x0214\x05n1015\x0215" +
			"+\x03+\x01+\x02-\x01+\x04+\x01+\x05"},
		{"long Labels", func(x *api.Entry) { x.Labels = list(strings.Repeat("n", 64), strings.Repeat("v", 128)) },
			"\x01\x40" + strings.Repeat("n", 64) + "\x81\x00" + strings.Repeat("v", 128) + "+\x03+\x01+\x02-\x01+\x04+\x01+\x05"},
		{"State", func(x *api.Entry) { x.Instance.State = api.StatePending }, "\x00" + "+\x02+\x01+\x02-\x01+\x04+\x01+\x05"},
		{"Since", func(x *api.Entry) { x.Instance.Since = maxTime }, "\x00" + "+\x03+\xa0\x80\x80\x80\x80\x00+\x02-\x01+\x04+\x01+\x05"},
		{"From", func(x *api.Entry) { x.Instance.From = never }, "\x00" + "+\x03+\x01-\x01-\x01+\x04+\x01+\x05"},
		{"Quiet", func(x *api.Entry) { x.Instance.Quiet = 0 }, "\x00" + "+\x03+\x01+\x02+\x00+\x04+\x01+\x05"},
		{"Seen", func(x *api.Entry) { x.Instance.Seen = 16384 }, "\x00" + "+\x03+\x01+\x02-\x01+\x81\x80\x00+\x01+\x05"},
		{"Value's Kind", func(x *api.Entry) { x.Instance.Value = minus }, "\x00" + "+\x03+\x01+\x02-\x01+\x04+\x05+\x00"},
		{"Value's N", func(x *api.Entry) { x.Instance.Value.N = -128 }, "\x00" + "+\x03+\x01+\x02-\x01+\x04+\x01-\x81\x00"},
	} {
		x := entry(nil, api.Instance{State: api.StateAlerting, Since: 1, From: 2, Quiet: never, Seen: 4, Value: num(5)})
		c.do(&x)
		b, want := []api.Entry{x}, "\x01"+c.want
		p, err := board.Put(b)
		if err != api.OK || string(p) != want {
			t.Errorf("%s: Put: %q, error %d, want %q", c.what, p, err, want)
		}
		got, err := board.Get([]byte(want))
		if err != api.OK || !sameBoard(got, b) {
			t.Errorf("%s: Get: %+v, error %d", c.what, got, err)
		}
	}
}

// P18.4: as many as there may be of all.
func TestPutOfTheGreatestBoard(t *testing.T) {
	var b []api.Entry
	for i := range api.MaxInstances {
		var l []api.Label
		for j := range api.MaxLabels {
			name := "n" + strconv.Itoa(100+j)
			l = append(l, api.Label{Name: name + strings.Repeat("x", api.MaxName-len(name)), Value: strconv.Itoa(100+i) + strings.Repeat("\xff", api.MaxLabel-3)})
		}
		b = append(b, entry(l, api.Instance{State: api.StateAlerting, Since: maxTime, From: maxTime, Quiet: maxTime, Seen: maxTime, Value: num(-maxNum)}))
	}
	accepts(t, "the greatest", b)
	p, _ := board.Put(b)
	// Of each label a byte and two ahead of its texts, of each entry a byte, four
	// times with 1 + 6 bytes, State and Kind with 2, N with 1 + 8.
	if want := 1 + api.MaxInstances*(1+api.MaxLabels*(1+api.MaxName+2+api.MaxLabel)+4*7+2*2+9); len(p) != want {
		t.Errorf("%d bytes, want %d", len(p), want)
	}
}

// kinds is boards in the pieces of their bytes.
func kinds() map[string][]piece {
	return map[string][]piece{
		"none": pieces(nil), "some board": pieces(someBoard()), "hosts": pieces(hosts(90)), "wide": pieces([]api.Entry{entry(wide(api.MaxLabels), seenAt(2, maxTime))}),
	}
}

// instead is the bytes with another piece at that place.
func instead(all []piece, at int, s string) string {
	return joined(all[:at]) + s + joined(all[at+1:])
}

// P18.4: bytes that are cut off at each place, and bytes behind the end.
func TestGetOfBytesThatEndElsewhere(t *testing.T) {
	for what, all := range kinds() {
		b := joined(all)
		for cut := range len(b) {
			isNoBoard(t, what+" cut off", b[:cut])
		}
		for c := range 256 {
			isNoBoard(t, what+" with a byte behind", b+string([]byte{byte(c)}))
		}
		isNoBoard(t, what+" twice", b+b)
		isNoBoard(t, what+" with a byte ahead", "\x00"+b)
		for at, p := range all {
			isNoBoard(t, what+" without "+p.name, instead(all, at, ""))
			isNoBoard(t, what+" with twice "+p.name, instead(all, at, p.bytes+p.bytes))
		}
	}
	full := saidBoard(many(api.MaxInstances))
	isNoBoard(t, "a full one cut off", full[:len(full)-1])
	isNoBoard(t, "a full one with a byte behind", full+"\x00")
	isNoBoard(t, "no bytes", "")
	for _, b := range [][]byte{nil, {}, make([]byte, 0, 4)} {
		if got, err := board.Get(b); err != api.ErrBoard || got != nil {
			t.Errorf("Get of no bytes: %+v, error %d", got, err)
		}
	}
}

// P18.4: numbers that are not in their fewest bytes, or in no bytes that are a
// number at all.
func TestGetOfNumbersInOtherBytes(t *testing.T) {
	for what, all := range kinds() {
		for at, p := range all {
			what := what + ", " + p.name
			switch p.kind {
			case number, text:
				isNoBoard(t, what+" with a digit 0 ahead", instead(all, at, "\x80"+p.bytes))
				isNoBoard(t, what+" with two digits 0 ahead", instead(all, at, "\x80\x80"+p.bytes))
				isNoBoard(t, what+" with a sign", instead(all, at, "+"+p.bytes))
				isNoBoard(t, what+" of 2^64 and more", instead(all, at, "\x82"+strings.Repeat("\x80", 8)+p.bytes))
				isNoBoard(t, what+" without an end", instead(all, at, strings.Repeat("\xff", 12)))
			case signed:
				isNoBoard(t, what+" with a digit 0 ahead", instead(all, at, p.bytes[:1]+"\x80"+p.bytes[1:]))
				isNoBoard(t, what+" without a sign", instead(all, at, p.bytes[1:]))
				isNoBoard(t, what+" with another sign", instead(all, at, " "+p.bytes[1:]))
				isNoBoard(t, what+" of - and 0", instead(all, at, "-\x00"))
				isNoBoard(t, what+" of 2^63", instead(all, at, "+"+saidNumber(1<<63)))
				isNoBoard(t, what+" of 2^64 - 1", instead(all, at, "-"+saidNumber(math.MaxUint64)))
				isNoBoard(t, what+" of 2^64 and more", instead(all, at, "+\x82"+strings.Repeat("\x80", 8)+p.bytes[1:]))
			}
		}
	}
}

// P18.4: numbers of entries, of labels and of bytes that are not so many, or too
// great, up to those that nobody could count to.
func TestGetOfNumbersThatAreTooGreat(t *testing.T) {
	counts := []uint64{0, 1, 2, 3, 4, 5, 15, 16, 17, 64, 65, 100, 101, 127, 128, 129, 256, 260, 1 << 31, 1 << 32, 1<<32 + 2, 1<<32 + 5, 1<<63 - 1, 1 << 63, 1<<63 + 2, math.MaxUint64 - 1, math.MaxUint64}
	for what, all := range kinds() {
		for at, p := range all {
			for _, n := range counts {
				s := saidNumber(n)
				what := what + ", " + p.name + " of " + strconv.FormatUint(n, 10)
				switch {
				case s == p.bytes:
				case p.kind == number:
					isNoBoard(t, what, instead(all, at, s))
				case p.kind == text && s != p.bytes[:1]:
					isNoBoard(t, what, instead(all, at, s+p.bytes[1:]))
				}
			}
		}
	}
	// With as many behind it as it says.
	for n := api.MaxInstances + 1; n < 300; n++ {
		isNoBoard(t, "too many entries", saidBoard(many(n)))
	}
	for n := api.MaxLabels + 1; n < 40; n++ {
		isNoBoard(t, "too many labels", saidBoard([]api.Entry{entry(wide(n), seenAt(1, 9))}))
	}
}

// P18.4: ints beyond all that a field may be, some of which would do if only
// their last bits counted.
func TestGetOfWideInts(t *testing.T) {
	wide := []int64{1<<40 + 1, 1<<48 + 1, 1<<56 + 2, 1<<62 + 3, -1<<32 + 1, -1 << 40, -2, math.MaxInt64, math.MinInt64, math.MinInt64 + 1}
	for what, all := range kinds() {
		for at, p := range all {
			if p.kind != signed {
				continue
			}
			for _, n := range wide {
				// A number's N may be what is no time.
				if b, ok := saidGet(instead(all, at, saidSigned(n))); ok && p.name == "Value's N" {
					accepts(t, what, b)
					continue
				}
				isNoBoard(t, what+", "+p.name+" of "+strconv.FormatInt(n, 10), instead(all, at, saidSigned(n)))
			}
		}
	}
	for _, n := range []int64{1<<8 + 1, 1<<16 + 2, 1<<32 + 1, 1<<32 + 2, 1<<32 + 3} {
		b := hosts(90)
		b[0].Instance.State = int(n)
		isNoBoard(t, "State", saidBoard(b))
		b = hosts(90)
		b[1].Instance.Value.Kind = int(n)
		isNoBoard(t, "Value's Kind", saidBoard(b))
	}
}

// P18.4: bytes of what is laid as a board is, and is none.
func TestGetOfBoardsThatAreNone(t *testing.T) {
	turned, twice := hosts(90), hosts(90)
	slices.Reverse(turned)
	twice[3].Labels = twice[2].Labels
	isNoBoard(t, "that falls", saidBoard(turned))
	isNoBoard(t, "with one twice", saidBoard(twice))
	for _, l := range noSets() {
		isNoBoard(t, "no set", saidBoard([]api.Entry{entry(l, seenAt(1, 9))}))
	}
	for _, x := range unmaking() {
		isNoBoard(t, "no instance", saidBoard([]api.Entry{entry(nil, x)}))
	}
}
