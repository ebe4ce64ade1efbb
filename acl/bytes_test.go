package acl_test

import (
	"math"
	"strconv"
	"strings"
	"testing"

	"klaxon/acl"
	"klaxon/api"
)

// fullBytes is the bytes of the full folder, written by hand.
const fullBytes = "\x05ops-1" + "\x04" +
	"+\x02" + "\x03red" + "+\x02" +
	"+\x01" + "\x03ann" + "+\x01" +
	"+\x03" + "\x06editor" + "+\x03" +
	"+\x01" + "\x03red" + "+\x03" +
	"+\x82\x2c"

// P15.3: to the byte.
func TestPutOfAFullFolder(t *testing.T) {
	b, err := acl.Put(full())
	if err != api.OK || string(b) != fullBytes {
		t.Errorf("Put: %q, error %d, want %q", b, err, fullBytes)
	}
	f, err := acl.Get([]byte(fullBytes))
	if err != api.OK || !same(f, full()) {
		t.Errorf("Get: %+v, error %d", f, err)
	}
}

// P15.3: what each field makes of the bytes, and no other field does.
func TestPutFieldByField(t *testing.T) {
	for _, c := range []struct {
		what string
		do   func(f *api.Folder)
		want string
	}{
		{"none", func(f *api.Folder) {}, "\x01a" + "\x00" + "+\x01"},
		{"Name", func(f *api.Folder) { f.Name = "x-9" }, "\x03x-9" + "\x00" + "+\x01"},
		{"a long Name", func(f *api.Folder) { f.Name = strings.Repeat("y", 24) }, "\x18" + "yyyyyyyyyyyyyyyyyyyyyyyy" + "\x00" + "+\x01"},
		{"Next", func(f *api.Folder) { f.Next = 300 }, "\x01a" + "\x00" + "+\x82\x2c"},
		{"a great Next", func(f *api.Folder) { f.Next = math.MaxInt64 }, "\x01a" + "\x00" + "+\xff\xff\xff\xff\xff\xff\xff\xff\x7f"},
		{"a user", func(f *api.Folder) { f.Grants = []api.Grant{toUser("u", 1)} }, "\x01a" + "\x01" + "+\x01\x01u+\x01" + "+\x01"},
		{"a team", func(f *api.Folder) { f.Grants = []api.Grant{toTeam("t-1", 2)} }, "\x01a" + "\x01" + "+\x02\x03t-1+\x02" + "+\x01"},
		{"a role", func(f *api.Folder) { f.Grants = []api.Grant{toRole("viewer", 3)} }, "\x01a" + "\x01" + "+\x03\x06viewer+\x03" + "+\x01"},
		{"two, as they stand", func(f *api.Folder) { f.Grants = []api.Grant{toTeam("b", 3), toTeam("a", 1)} },
			"\x01a" + "\x02" + "+\x02\x01b+\x03" + "+\x02\x01a+\x01" + "+\x01"},
		{"MaxGrants", func(f *api.Folder) {
			for c := range api.MaxGrants {
				f.Grants = append(f.Grants, toUser(string([]byte{byte('a' + c)}), 1))
			}
		}, "\x01a" + "\x10" + "+\x01\x01a+\x01+\x01\x01b+\x01+\x01\x01c+\x01+\x01\x01d+\x01+\x01\x01e+\x01+\x01\x01f+\x01+\x01\x01g+\x01+\x01\x01h+\x01" +
			"+\x01\x01i+\x01+\x01\x01j+\x01+\x01\x01k+\x01+\x01\x01l+\x01+\x01\x01m+\x01+\x01\x01n+\x01+\x01\x01o+\x01+\x01\x01p+\x01" + "+\x01"},
	} {
		f := some()
		c.do(&f)
		b, err := acl.Put(f)
		if err != api.OK || string(b) != c.want {
			t.Errorf("%s: Put: %q, error %d, want %q", c.what, b, err, c.want)
		}
		got, err := acl.Get([]byte(c.want))
		if err != api.OK || !same(got, f) {
			t.Errorf("%s: Get: %+v, error %d", c.what, got, err)
		}
	}
}

// P15.3
func TestFoldersByName(t *testing.T) {
	for _, f := range []api.Folder{some(), full()} {
		for _, s := range names() {
			f.Name = s
			accepts(t, "Name "+s, f)
		}
		for _, s := range noNames() {
			f.Name = s
			refuses(t, "Name "+strconv.Quote(s[:min(len(s), 30)]), api.ErrGrant, f)
		}
	}
	refuses(t, "the zero Folder", api.ErrGrant, api.Folder{})
}

// P15.3
func TestFoldersByNext(t *testing.T) {
	for _, f := range []api.Folder{some(), full()} {
		for _, n := range []int64{1, 2, 127, 128, 1 << 31, 1 << 32, 1 << 40, 1<<40 + 1, math.MaxInt64} {
			f.Next = n
			accepts(t, "Next "+strconv.FormatInt(n, 10), f)
		}
		for _, n := range []int64{0, -1, -2, -1 << 32, math.MinInt64} {
			f.Next = n
			refuses(t, "Next "+strconv.FormatInt(n, 10), api.ErrGrant, f)
		}
	}
}

// P15.3: a folder's own error comes ahead of that of its Grants, whichever it is.
func TestFoldersTellTheFirstError(t *testing.T) {
	own := []func(f *api.Folder){
		func(f *api.Folder) { f.Name = "" },
		func(f *api.Folder) { f.Name = "Ops" },
		func(f *api.Folder) { f.Next = 0 },
		func(f *api.Folder) { f.Next = -7 },
		func(f *api.Folder) { f.Name, f.Next = "", 0 },
	}
	grants := []struct {
		err api.Errno
		l   []api.Grant
	}{
		{api.ErrMany, many(api.MaxGrants + 1)},
		{api.ErrMany, make([]api.Grant, api.MaxGrants+1)},
		{api.ErrGrant, []api.Grant{toUser("x", 1), toUser("x", 1), toUser("x", 0)}},
		{api.ErrThere, []api.Grant{toUser("x", 1), toUser("x", 2)}},
	}
	for _, g := range grants {
		refuses(t, "its Grants", g.err, with(g.l...))
		for _, wrong := range own {
			f := with(g.l...)
			wrong(&f)
			refuses(t, "its own, and its Grants", api.ErrGrant, f)
		}
	}
	for _, wrong := range own {
		f := full()
		wrong(&f)
		refuses(t, "its own", api.ErrGrant, f)
	}
}

// kinds is folders with few and with as many grants as there may be.
func kinds() map[string][]piece {
	most := with(many(api.MaxGrants)...)
	most.Name, most.Next = strings.Repeat("z", api.MaxFolder), math.MaxInt64
	return map[string][]piece{"some folder": pieces(some()), "full folder": pieces(full()), "great folder": pieces(most)}
}

// instead is the bytes with another piece at that place.
func instead(all []piece, at int, s string) string {
	return joined(all[:at]) + s + joined(all[at+1:])
}

// P15.3: bytes that are cut off at each place, and bytes behind the end.
func TestGetOfBytesThatEndElsewhere(t *testing.T) {
	for what, all := range kinds() {
		b := joined(all)
		for cut := range len(b) {
			isNoFolder(t, what+" cut off", b[:cut])
		}
		for cut := 1; cut <= len(b); cut++ {
			isNoFolder(t, what+" without its beginning", b[cut:])
		}
		for c := range 256 {
			isNoFolder(t, what+" with a byte behind", b+string([]byte{byte(c)}))
		}
		isNoFolder(t, what+" twice", b+b)
		isNoFolder(t, what+" with a byte ahead", "\x00"+b)
		for at, p := range all {
			isNoFolder(t, what+" without "+p.name, instead(all, at, ""))
			isNoFolder(t, what+" with twice "+p.name, instead(all, at, p.bytes+p.bytes))
		}
	}
	isNoFolder(t, "no bytes", "")
	if f, err := acl.Get(nil); err != api.ErrGrant || !same(f, api.Folder{}) {
		t.Errorf("Get of nil: %+v, error %d", f, err)
	}
}

// P15.3: numbers that are not in their fewest bytes, or in no bytes that are a
// number at all.
func TestGetOfNumbersInOtherBytes(t *testing.T) {
	for what, all := range kinds() {
		for at, p := range all {
			what := what + ", " + p.name
			switch p.kind {
			case number, text:
				isNoFolder(t, what+" with a digit 0 ahead", instead(all, at, "\x80"+p.bytes))
				isNoFolder(t, what+" with two digits 0 ahead", instead(all, at, "\x80\x80"+p.bytes))
				isNoFolder(t, what+" with a sign", instead(all, at, "+"+p.bytes))
				isNoFolder(t, what+" of 2^64 and more", instead(all, at, "\x82"+strings.Repeat("\x80", 8)+p.bytes))
				isNoFolder(t, what+" without an end", instead(all, at, strings.Repeat("\xff", 12)))
			case signed:
				isNoFolder(t, what+" with a digit 0 ahead", instead(all, at, p.bytes[:1]+"\x80"+p.bytes[1:]))
				isNoFolder(t, what+" without a sign", instead(all, at, p.bytes[1:]))
				isNoFolder(t, what+" with another sign", instead(all, at, " "+p.bytes[1:]))
				isNoFolder(t, what+" below 0", instead(all, at, "-"+p.bytes[1:]))
				isNoFolder(t, what+" of 0", instead(all, at, "+\x00"))
				isNoFolder(t, what+" of - and 0", instead(all, at, "-\x00"))
				isNoFolder(t, what+" of 2^63", instead(all, at, "+"+saidNumber(1<<63)))
				isNoFolder(t, what+" of 2^64 - 1", instead(all, at, "-"+saidNumber(math.MaxUint64)))
				isNoFolder(t, what+" of 2^64 and more", instead(all, at, "+\x82"+strings.Repeat("\x80", 8)+p.bytes[1:]))
			}
		}
	}
}

// P15.3: numbers of grants, and of bytes, that are not so many, or too great, up
// to those that nobody could count to.
func TestGetOfNumbersThatAreTooGreat(t *testing.T) {
	counts := []uint64{0, 1, 2, 3, 4, 5, 15, 16, 17, 24, 25, 127, 128, 256, 260, 1 << 31, 1 << 32, 1<<32 + 4, 1<<63 - 1, 1 << 63, 1<<63 + 4, math.MaxUint64 - 1, math.MaxUint64}
	for what, all := range kinds() {
		for at, p := range all {
			for _, n := range counts {
				s := saidNumber(n)
				what := what + ", " + p.name + " of " + strconv.FormatUint(n, 10)
				switch {
				case s == p.bytes:
				case p.kind == number:
					isNoFolder(t, what, instead(all, at, s))
				case p.kind == text && s != p.bytes[:1]:
					isNoFolder(t, what, instead(all, at, s+p.bytes[1:]))
				}
			}
		}
	}
	// With as many behind it as it says.
	for n := api.MaxGrants + 1; n < 300; n++ {
		isNoFolder(t, "too many", saidFolder(with(many(n)...)))
	}
}

// P15.3: ints beyond all that a field may be, some of which would do if only
// their last bits counted.
func TestGetOfWideInts(t *testing.T) {
	for what, all := range kinds() {
		for at, p := range all {
			if p.kind != signed || p.name == "Next" {
				continue
			}
			for _, n := range []int64{4, 5, 127, 1<<8 + 1, 1<<16 + 2, 1<<32 + 1, 1<<32 + 2, 1<<32 + 3, -1<<32 + 1, 1<<56 + 1, math.MaxInt64, math.MinInt64, math.MinInt64 + 1} {
				isNoFolder(t, what+", "+p.name+" of "+strconv.FormatInt(n, 10), instead(all, at, saidSigned(n)))
			}
		}
	}
}
