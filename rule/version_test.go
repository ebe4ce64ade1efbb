package rule_test

import (
	"math"
	"strconv"
	"strings"
	"testing"

	"klaxon/api"
	"klaxon/rule"
)

// changeVersion is a version that is some version but for one thing.
func changeVersion(do func(v *api.Version)) api.Version {
	v := someVersion()
	do(&v)
	return v
}

// P14.4: to the byte.
func TestPutVersionOfAFullOne(t *testing.T) {
	want := "+\x82\x2c" + "+\x02" + "\x05ann-1" + "+\x81\x80\x00" + "\x01" + fullBytes
	b, err := rule.PutVersion(fullVersion())
	if err != api.OK || string(b) != want {
		t.Errorf("PutVersion: %q, error %d, want %q", b, err, want)
	}
	v, err := rule.GetVersion([]byte(want))
	if err != api.OK || !sameVersion(v, fullVersion()) {
		t.Errorf("GetVersion: %+v, error %d", v, err)
	}
}

// P14.4: what each field makes of the bytes, and no other field does.
func TestPutVersionFieldByField(t *testing.T) {
	of, err := rule.Put(some())
	if err != api.OK {
		t.Fatal(err)
	}
	for _, c := range []struct {
		what string
		do   func(v *api.Version)
		want string
	}{
		{"none", func(v *api.Version) {}, "+\x01+\x01\x01u+\x00\x00"},
		{"Id", func(v *api.Version) { v.Id = 300 }, "+\x82\x2c+\x01\x01u+\x00\x00"},
		{"Number", func(v *api.Version) { v.Number = 300 }, "+\x01+\x82\x2c\x01u+\x00\x00"},
		{"By", func(v *api.Version) { v.By = "-ann9" }, "+\x01+\x01\x05-ann9+\x00\x00"},
		{"At", func(v *api.Version) { v.At = 1 << 40 }, "+\x01+\x01\x01u+\xa0\x80\x80\x80\x80\x00\x00"},
		{"Deleted", func(v *api.Version) { v.Deleted = true }, "+\x01+\x01\x01u+\x00\x01"},
	} {
		v := changeVersion(c.do)
		b, err := rule.PutVersion(v)
		if err != api.OK || string(b) != c.want+string(of) {
			t.Errorf("%s: PutVersion: %q, error %d, want %q", c.what, b, err, c.want+string(of))
		}
		got, err := rule.GetVersion([]byte(c.want + string(of)))
		if err != api.OK || !sameVersion(got, v) {
			t.Errorf("%s: GetVersion: %+v, error %d", c.what, got, err)
		}
	}
}

// P14.4
func TestVersionsById(t *testing.T) {
	for _, n := range []int64{1, 2, 127, 128, 1 << 40, 1<<40 + 1, math.MaxInt64} {
		acceptsVersion(t, "Id "+strconv.FormatInt(n, 10), changeVersion(func(v *api.Version) { v.Id = n }))
		acceptsVersion(t, "Number "+strconv.FormatInt(n, 10), changeVersion(func(v *api.Version) { v.Number = n }))
	}
	for _, n := range []int64{0, -1, -2, math.MinInt64} {
		refusesVersion(t, "Id "+strconv.FormatInt(n, 10), api.ErrRule, changeVersion(func(v *api.Version) { v.Id = n }))
		refusesVersion(t, "Number "+strconv.FormatInt(n, 10), api.ErrRule, changeVersion(func(v *api.Version) { v.Number = n }))
	}
	refusesVersion(t, "the zero Version", api.ErrRule, api.Version{})
}

// P14.4
func TestVersionsByWhom(t *testing.T) {
	for _, name := range []string{"u", "0", "-", "ann-9", strings.Repeat("z", api.MaxFolder)} {
		acceptsVersion(t, "By "+name, changeVersion(func(v *api.Version) { v.By = name }))
	}
	for _, name := range noNames() {
		refusesVersion(t, "By "+strconv.Quote(name[:min(len(name), 30)]), api.ErrRule, changeVersion(func(v *api.Version) { v.By = name }))
	}
}

// P14.4
func TestVersionsByTime(t *testing.T) {
	for _, n := range []int64{0, 1, 1 << 32, maxTime - 1, maxTime} {
		acceptsVersion(t, "At "+strconv.FormatInt(n, 10), changeVersion(func(v *api.Version) { v.At = n }))
	}
	for _, n := range []int64{-1, -maxTime, maxTime + 1, math.MaxInt64, math.MinInt64} {
		refusesVersion(t, "At "+strconv.FormatInt(n, 10), api.ErrRule, changeVersion(func(v *api.Version) { v.At = n }))
	}
	for _, deleted := range []bool{false, true} {
		acceptsVersion(t, "Deleted", changeVersion(func(v *api.Version) { v.Deleted = deleted }))
	}
}

// P14.4: a version's own error comes ahead of that of its rule, whichever it is.
func TestVersionsTellTheFirstError(t *testing.T) {
	own := []func(v *api.Version){
		func(v *api.Version) { v.Id = 0 },
		func(v *api.Version) { v.Number = 0 },
		func(v *api.Version) { v.By = "" },
		func(v *api.Version) { v.At = -1 },
		func(v *api.Version) { v.At = maxTime + 1 },
	}
	long := ofSize(t, api.MaxRule+1)
	rules := []struct {
		err api.Errno
		r   api.Rule
	}{{api.ErrLong, long}}
	for _, f := range nodeFaults() {
		rules = append(rules, struct {
			err api.Errno
			r   api.Rule
		}{f.err, change(f.do)})
	}
	for _, x := range rules {
		v := version(x.r)
		refusesVersion(t, "its rule", x.err, v)
		for _, wrong := range own {
			v := version(x.r)
			wrong(&v)
			refusesVersion(t, "its own, and its rule", api.ErrRule, v)
		}
	}
	for _, wrong := range own {
		refusesVersion(t, "its own", api.ErrRule, changeVersion(wrong))
	}
}

// P14.4: MaxRule bounds the rule's bytes, not the version's.
func TestVersionsOfLongRules(t *testing.T) {
	v := fullVersion()
	v.Rule = ofSize(t, api.MaxRule)
	v.Id, v.Number, v.At, v.By = math.MaxInt64, math.MaxInt64, maxTime, strings.Repeat("a", api.MaxFolder)
	acceptsVersion(t, "of a rule of MaxRule bytes", v)
	v.Rule = ofSize(t, api.MaxRule+1)
	refusesVersion(t, "of a rule of one byte more", api.ErrLong, v)
}
