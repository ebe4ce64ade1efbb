package rule_test

import (
	"math"
	"strconv"
	"strings"
	"testing"

	"klaxon/api"
	"klaxon/rule"
)

// fullBytes is the bytes of the full rule, written by hand.
const fullBytes = "\x03ops" + "\x06disk-1" + "\x06Disk\x00\xff" +
	"+\x82\x2c" + "+\x07" + "+\x81\x00" + "+\x7f" + "+\x04" + "+\x02" +
	"\x02" + "\x04host" + "\x01a" + "\x03sev" + "\x05\xffcrit" +
	"\x04" +
	"\x01B" + "+\x02" + "\x00" + "\x01A" + "\x04mean" + "\x01" + "+\x00" + "+\x00" + "+\x00" + "+\x00" + "\x00" +
	"\x01A" + "+\x01" + "\x03cpu" + "\x00" + "\x00" + "\x00" + "+\x00" + "+\x00" + "+\x00" + "+\x00" + "\x00" +
	"\x01C" + "+\x03" + "\x00" + "\x00" + "\x00" + "\x00" + "+\x00" + "+\x00" + "+\x00" + "+\x00" + "\x04$B*2" +
	"\x01D" + "+\x04" + "\x00" + "\x01C" + "\x03out" + "\x00" + "+\x01" + "-\x8b\x5c" + "+\x04" + "+\x00" + "\x00" +
	"\x01D" + "\x01"

// P14.3: to the byte.
func TestPutOfAFullRule(t *testing.T) {
	b, err := rule.Put(full())
	if err != api.OK || string(b) != fullBytes {
		t.Errorf("Put: %q, error %d, want %q", b, err, fullBytes)
	}
	r, err := rule.Get([]byte(fullBytes))
	if err != api.OK || !same(r, full()) {
		t.Errorf("Get: %+v, error %d", r, err)
	}
}

// P14.3: what each field makes of the bytes, and no other field does.
func TestPutFieldByField(t *testing.T) {
	const (
		head  = "\x01a\x01b\x01c"
		ints  = "+\x01+\x00+\x00+\x00+\x01+\x01"
		zeros = "+\x00+\x00+\x00+\x00"
		query = "\x01A+\x01\x01s\x00\x00\x00" + zeros + "\x00"
		tail  = "\x01A\x00"
	)
	for _, c := range []struct {
		what string
		do   func(r *api.Rule)
		want string
	}{
		{"none", func(r *api.Rule) {}, head + ints + "\x00\x01" + query + tail},
		{"Folder", func(r *api.Rule) { r.Folder = "x-9" }, "\x03x-9\x01b\x01c" + ints + "\x00\x01" + query + tail},
		{"Group", func(r *api.Rule) { r.Group = "x-9" }, "\x01a\x03x-9\x01c" + ints + "\x00\x01" + query + tail},
		{"Title", func(r *api.Rule) { r.Title = "\x00 T" }, "\x01a\x01b\x03\x00 T" + ints + "\x00\x01" + query + tail},
		{"Interval", func(r *api.Rule) { r.Interval = 86400 }, head + "+\x85\xa3\x00+\x00+\x00+\x00+\x01+\x01" + "\x00\x01" + query + tail},
		{"Offset", func(r *api.Rule) { r.Interval, r.Offset = 3, 2 }, head + "+\x03+\x02+\x00+\x00+\x01+\x01" + "\x00\x01" + query + tail},
		{"For", func(r *api.Rule) { r.For = 1000000 }, head + "+\x01+\x00+\xbd\x84\x40+\x00+\x01+\x01" + "\x00\x01" + query + tail},
		{"Keep", func(r *api.Rule) { r.Keep = 5 }, head + "+\x01+\x00+\x00+\x05+\x01+\x01" + "\x00\x01" + query + tail},
		{"NoData", func(r *api.Rule) { r.NoData = 4 }, head + "+\x01+\x00+\x00+\x00+\x04+\x01" + "\x00\x01" + query + tail},
		{"OnError", func(r *api.Rule) { r.OnError = 3 }, head + "+\x01+\x00+\x00+\x00+\x01+\x03" + "\x00\x01" + query + tail},
		{"Labels", func(r *api.Rule) { r.Labels = list("B", "xy", "a", "\x00") }, head + ints + "\x02\x01B\x02xy\x01a\x01\x00" + "\x01" + query + tail},
		{"Source", func(r *api.Rule) { r.Nodes[0].Source = "cpu" }, head + ints + "\x00\x01" + "\x01A+\x01\x03cpu\x00\x00\x00" + zeros + "\x00" + tail},
		{"a reduce", func(r *api.Rule) {
			r.Nodes = append(r.Nodes, api.Node{Ref: "Bc", Kind: api.NodeReduce, Input: "A", How: "sum"})
		},
			head + ints + "\x00\x02" + query + "\x02Bc+\x02\x00\x01A\x03sum\x00" + zeros + "\x00" + tail},
		{"a strict reduce", func(r *api.Rule) {
			r.Nodes = append(r.Nodes, api.Node{Ref: "B", Kind: api.NodeReduce, Input: "A", How: "last", Strict: true})
		},
			head + ints + "\x00\x02" + query + "\x01B+\x02\x00\x01A\x04last\x01" + zeros + "\x00" + tail},
		{"a math", func(r *api.Rule) { r.Nodes = append(r.Nodes, expr("B", "1+$A")) },
			head + ints + "\x00\x02" + query + "\x01B+\x03\x00\x00\x00\x00" + zeros + "\x041+$A" + tail},
		{"a threshold", func(r *api.Rule) {
			r.Nodes = append(r.Nodes, api.Node{Ref: "B", Kind: api.NodeThreshold, Input: "A", How: "gt", Low: num(-300)})
		},
			head + ints + "\x00\x02" + query + "\x01B+\x04\x00\x01A\x02gt\x00" + "+\x01-\x82\x2c+\x00+\x00" + "\x00" + tail},
		{"a threshold of two bounds", func(r *api.Rule) {
			r.Nodes = append(r.Nodes, api.Node{Ref: "B", Kind: api.NodeThreshold, Input: "A", How: "in", Low: api.Value{Kind: api.ValueMinus}, High: num(300)})
		},
			head + ints + "\x00\x02" + query + "\x01B+\x04\x00\x01A\x02in\x00" + "+\x05+\x00+\x01+\x82\x2c" + "\x00" + tail},
		{"Condition", func(r *api.Rule) { r.Nodes, r.Condition = []api.Node{expr("Cd", "1")}, "Cd" },
			head + ints + "\x00\x01" + "\x02Cd+\x03\x00\x00\x00\x00" + zeros + "\x011" + "\x02Cd\x00"},
		{"Paused", func(r *api.Rule) { r.Paused = true }, head + ints + "\x00\x01" + query + "\x01A\x01"},
	} {
		r := change(c.do)
		b, err := rule.Put(r)
		if err != api.OK || string(b) != c.want {
			t.Errorf("%s: Put: %q, error %d, want %q", c.what, b, err, c.want)
		}
		got, err := rule.Get([]byte(c.want))
		if err != api.OK || !same(got, r) {
			t.Errorf("%s: Get: %+v, error %d", c.what, got, err)
		}
	}
}

// kindOfBytes is rules, or versions, as pieces, and how they are refused.
type kindOfBytes struct {
	what   string
	pieces []piece
	isNone func(t *testing.T, what, s string)
}

func kindsOfBytes(t *testing.T) []kindOfBytes {
	long := ofSize(t, api.MaxRule-1)
	return []kindOfBytes{
		{"some rule", rulePieces(some()), isNoRule},
		{"full rule", rulePieces(full()), isNoRule},
		{"long rule", rulePieces(long), isNoRule},
		{"some version", versionPieces(someVersion()), isNoVersion},
		{"full version", versionPieces(fullVersion()), isNoVersion},
		{"long version", versionPieces(version(long)), isNoVersion},
	}
}

// instead is the bytes with another piece at that place.
func instead(all []piece, at int, s string) string {
	return joined(all[:at]) + s + joined(all[at+1:])
}

// P14.3, P14.4: bytes that are cut off at each place, and bytes behind the end.
func TestGetOfBytesThatEndElsewhere(t *testing.T) {
	for _, k := range kindsOfBytes(t) {
		b := joined(k.pieces)
		step := 1 + len(b)/2000
		for cut := 0; cut < len(b); cut += step {
			k.isNone(t, k.what+" cut off", b[:cut])
		}
		k.isNone(t, k.what+" without its last byte", b[:len(b)-1])
		for c := range 256 {
			k.isNone(t, k.what+" with a byte behind", b+string([]byte{byte(c)}))
		}
		k.isNone(t, k.what+" twice", b+b)
		k.isNone(t, k.what+" without its first byte", b[1:])
		k.isNone(t, k.what+" with a byte ahead", "\x00"+b)
		for at, p := range k.pieces {
			k.isNone(t, k.what+" without "+p.name, instead(k.pieces, at, ""))
		}
	}
	isNoRule(t, "no bytes", "")
	isNoVersion(t, "no bytes", "")
	if r, err := rule.Get(nil); err != api.ErrRule || !same(r, api.Rule{}) {
		t.Errorf("Get of nil: %+v, error %d", r, err)
	}
	if v, err := rule.GetVersion(nil); err != api.ErrRule || !sameVersion(v, api.Version{}) {
		t.Errorf("GetVersion of nil: %+v, error %d", v, err)
	}
	// The one is not the other.
	isNoRule(t, "a version", saidVersion(fullVersion()))
	isNoVersion(t, "a rule", saidRule(full()))
}

// P14.3, P14.4: numbers that are not in their fewest bytes, or in no bytes that
// are a number at all.
func TestGetOfNumbersInOtherBytes(t *testing.T) {
	for _, k := range kindsOfBytes(t) {
		for at, p := range k.pieces {
			what := k.what + ", " + p.name
			switch p.kind {
			case number, text:
				k.isNone(t, what+" with a digit 0 ahead", instead(k.pieces, at, "\x80"+p.bytes))
				k.isNone(t, what+" with two digits 0 ahead", instead(k.pieces, at, "\x80\x80"+p.bytes))
				k.isNone(t, what+" with a sign", instead(k.pieces, at, "+"+p.bytes))
				k.isNone(t, what+" of 2^64 and more", instead(k.pieces, at, "\x82"+strings.Repeat("\x80", 8)+p.bytes))
				k.isNone(t, what+" without an end", instead(k.pieces, at, strings.Repeat("\xff", 12)))
			case signed:
				k.isNone(t, what+" with a digit 0 ahead", instead(k.pieces, at, p.bytes[:1]+"\x80"+p.bytes[1:]))
				k.isNone(t, what+" without a sign", instead(k.pieces, at, p.bytes[1:]))
				k.isNone(t, what+" with another sign", instead(k.pieces, at, " "+p.bytes[1:]))
				k.isNone(t, what+" of - and 0", instead(k.pieces, at, "-\x00"))
				k.isNone(t, what+" of 2^63", instead(k.pieces, at, "+"+saidNumber(1<<63)))
				k.isNone(t, what+" of 2^64 - 1", instead(k.pieces, at, "-"+saidNumber(math.MaxUint64)))
				k.isNone(t, what+" of 2^64 and more", instead(k.pieces, at, "+\x82"+strings.Repeat("\x80", 8)+p.bytes[1:]))
			}
		}
	}
}

// P14.3, P14.4: a truth is 1 or 0, and no other byte.
func TestGetOfTruths(t *testing.T) {
	found := 0
	for _, k := range kindsOfBytes(t) {
		for at, p := range k.pieces {
			if p.kind != truth {
				continue
			}
			found++
			for c := 2; c < 256; c++ {
				k.isNone(t, k.what+", "+p.name+" of "+strconv.Itoa(c), instead(k.pieces, at, string([]byte{byte(c)})))
			}
		}
	}
	if found < 6 {
		t.Errorf("only %d truths", found)
	}
	for _, c := range []struct {
		b      byte
		paused bool
	}{{0, false}, {1, true}} {
		r, err := rule.Get([]byte(fullBytes[:len(fullBytes)-1] + string([]byte{c.b})))
		if err != api.OK || r.Paused != c.paused {
			t.Errorf("Paused of %d: %v, error %d", c.b, r.Paused, err)
		}
	}
}

// P14.3, P14.4: numbers of labels and of nodes that are not so many, or too
// great, up to those that nobody could count to.
func TestGetOfNumbersThatAreTooGreat(t *testing.T) {
	counts := []uint64{0, 1, 2, 3, 4, 5, 15, 16, 17, 127, 128, 8192, 1 << 31, 1 << 32, 1<<32 + 1, 1<<63 - 1, 1 << 63, 1<<63 + 1, math.MaxUint64 - 1, math.MaxUint64}
	for _, k := range kindsOfBytes(t) {
		for at, p := range k.pieces {
			for _, n := range counts {
				s := saidNumber(n)
				what := k.what + ", " + p.name + " of " + strconv.FormatUint(n, 10)
				switch {
				case s == p.bytes:
				case p.kind == number:
					k.isNone(t, what, instead(k.pieces, at, s))
				case p.kind == text && n > uint64(len(p.bytes)):
					k.isNone(t, what, instead(k.pieces, at, s+p.bytes[1:]))
				}
			}
		}
	}
	// With as many behind it as it says.
	r := some()
	for n := api.MaxLabels; n < 40; n++ {
		r.Labels = wide(n)
		if n == api.MaxLabels {
			accepts(t, "16 labels", r)
		} else {
			isNoRule(t, "labels", saidRule(r))
		}
	}
	r = some()
	for n := api.MaxNodes; n < 40; n++ {
		r.Nodes, r.Condition = queries(n), "Q100"
		if n == api.MaxNodes {
			accepts(t, "16 nodes", r)
		} else {
			isNoRule(t, "nodes", saidRule(r))
		}
	}
}

// P14.3, P14.4: ints beyond all that a field may be, some of which would do if
// only their last bits counted.
func TestGetOfWideInts(t *testing.T) {
	for _, k := range kindsOfBytes(t) {
		for at, p := range k.pieces {
			if p.kind != signed || p.name == "Id" || p.name == "Number" {
				continue
			}
			for _, n := range []int64{math.MaxInt64, math.MinInt64, 1 << 56, 1<<56 + 1, -1 << 56, 1<<60 + 1, -1<<60 + 1} {
				k.isNone(t, k.what+", "+p.name+" of "+strconv.FormatInt(n, 10), instead(k.pieces, at, saidSigned(n)))
			}
		}
	}
}
