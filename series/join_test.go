package series_test

import (
	"math/rand"
	"strconv"
	"testing"

	"klaxon/api"
	"klaxon/series"
	"klaxon/value"
)

// P10.4
func TestJoin(t *testing.T) {
	full := api.Series{Labels: wide(api.MaxLabels), Value: num(5000)}
	for _, c := range []struct {
		name       string
		a, b, want []api.Series
	}{
		{"the document's", []api.Series{of(1000, "a", "1"), of(2000, "a", "2")}, []api.Series{of(10000, "a", "1", "b", "1")}, []api.Series{of(-9000, "a", "1", "b", "1")}},
		{"none and none", nil, nil, nil},
		{"some and none", []api.Series{of(1), of(2, "a", "1")}, nil, nil},
		{"none and some", []api.Series{}, []api.Series{of(1), of(2, "a", "1")}, nil},
		{"two without labels", []api.Series{of(5)}, []api.Series{of(3)}, []api.Series{of(2)}},
		{"one to one", []api.Series{of(1, "a", "1"), of(2, "a", "2")}, []api.Series{of(10, "a", "2"), of(20, "a", "1")}, []api.Series{of(-19, "a", "1"), of(-8, "a", "2")}},
		{"one to many", []api.Series{of(1, "a", "1")}, []api.Series{of(10, "a", "1", "b", "2"), of(20, "a", "1", "b", "1"), of(30, "a", "2", "b", "1")},
			[]api.Series{of(-19, "a", "1", "b", "1"), of(-9, "a", "1", "b", "2")}},
		{"many to one", []api.Series{of(10, "a", "1", "b", "2"), of(20, "a", "1", "b", "1"), of(30, "b", "1")}, []api.Series{of(1, "a", "1")},
			[]api.Series{of(19, "a", "1", "b", "1"), of(9, "a", "1", "b", "2")}},
		{"not at all, by the value", []api.Series{of(1, "a", "1")}, []api.Series{of(1, "a", "2")}, nil},
		{"not at all, by the name", []api.Series{of(1, "a", "1")}, []api.Series{of(1, "b", "1")}, nil},
		{"not at all, though they agree", []api.Series{of(1, "a", "1", "b", "1")}, []api.Series{of(1, "b", "1", "c", "1")}, nil},
		{"not at all, though the first labels do", []api.Series{of(1, "a", "1", "b", "1")}, []api.Series{of(1, "a", "1", "b", "2", "c", "1")}, nil},
		{"not at all, by the beginning of a value", []api.Series{of(1, "a", "1")}, []api.Series{of(1, "a", "11", "b", "1")}, nil},
		{"not at all, by letters", []api.Series{of(1, "a", "x")}, []api.Series{of(1, "a", "X", "b", "1"), of(1, "A", "x", "b", "1")}, nil},
		{"the last label of three", []api.Series{of(1, "c", "1")}, []api.Series{of(3, "a", "1", "b", "1", "c", "1")}, []api.Series{of(-2, "a", "1", "b", "1", "c", "1")}},
		{"the first and the last of three", []api.Series{of(4, "a", "1", "b", "1", "c", "1")}, []api.Series{of(1, "a", "1", "c", "1")}, []api.Series{of(3, "a", "1", "b", "1", "c", "1")}},
		{"no labels on the left", []api.Series{of(100)}, []api.Series{of(2, "b", "1"), of(1, "a", "1")}, []api.Series{of(99, "a", "1"), of(98, "b", "1")}},
		{"no labels on the right", []api.Series{of(2, "b", "1"), of(1, "a", "1")}, []api.Series{of(100)}, []api.Series{of(-99, "a", "1"), of(-98, "b", "1")}},
		{"each side has more of one", []api.Series{of(1, "a", "1"), of(2, "b", "1", "c", "1")}, []api.Series{of(10, "b", "1"), of(20, "a", "1", "c", "1")},
			[]api.Series{of(-19, "a", "1", "c", "1"), of(-8, "b", "1", "c", "1")}},
		{"as many as a set has", []api.Series{full}, []api.Series{full}, []api.Series{{Labels: full.Labels, Value: num(0)}}},
		{"a part of as many", []api.Series{{Labels: wide(8), Value: num(1)}}, []api.Series{full}, []api.Series{{Labels: full.Labels, Value: num(-4999)}}},
		{"more than a set may have", []api.Series{full}, []api.Series{of(1, "a", "1"), {Labels: wide(17)[1:], Value: num(2)}}, nil},
		{"more than a set may have, and one that fits", []api.Series{full}, []api.Series{of(1, "a", "1"), of(2, "n1003", "3")}, []api.Series{{Labels: full.Labels, Value: num(4998)}}},
	} {
		got, err := series.Join("-", c.a, c.b)
		is(t, c.name, got, err, c.want)
	}
}

// P10.4: a's value is the first operand.
func TestJoinOfEachOperation(t *testing.T) {
	values := []api.Value{num(0), num(1500), num(-2000), num(maxNum), null, nan, plus, minus}
	for _, op := range opsOfTwo() {
		for _, v := range values {
			for _, w := range values {
				want, _ := value.Do(op, v, w)
				labels := list("a", "1", "b", "1")
				isJoined(t, op, series.Scalar(v), series.Scalar(w), series.Scalar(want))
				isJoined(t, op, []api.Series{{Labels: labels, Value: v}}, []api.Series{{Labels: labels[1:], Value: w}}, []api.Series{{Labels: labels, Value: want}})
			}
		}
	}
}

// P10.4: MaxSeries on both sides, and as many that come of them.
func TestJoinOfMany(t *testing.T) {
	full := many(api.MaxSeries, "a")
	got, err := series.Join("-", full, full)
	if err != api.OK || len(got) != api.MaxSeries {
		t.Fatalf("%d, error %d", len(got), err)
	}
	for i, s := range got {
		if s.Value != num(0) || s.Labels[0] != full[i].Labels[0] {
			t.Fatalf("%d: %v", i, s)
		}
	}
	// One without labels on each side, too: 100 of a, 99 of b, and theirs.
	got, err = series.Join("+", append(many(100, "a"), of(1)), append(many(99, "b"), of(1)))
	if err != api.OK || len(got) != api.MaxSeries {
		t.Fatalf("%d, error %d", len(got), err)
	}
}

// P10.4
func TestJoinRefusesWhatItCameTo(t *testing.T) {
	none, a, b, ab := of(1), of(2, "a", "1"), of(3, "b", "1"), of(4, "a", "1", "b", "1")
	full := many(api.MaxSeries-1, "a")
	for _, c := range []struct {
		name string
		a, b []api.Series
		want api.Errno
	}{
		{"two of a and one of b", []api.Series{a, b}, []api.Series{ab}, api.ErrThere},
		{"one of a and two of b", []api.Series{ab}, []api.Series{a, b}, api.ErrThere},
		{"one and none, to one", []api.Series{none, a}, []api.Series{a}, api.ErrThere},
		{"one and none, to both", []api.Series{none, a}, []api.Series{none, a}, api.ErrThere},
		{"one and none, to more", []api.Series{ab}, []api.Series{none, ab}, api.ErrThere},
		{"one more", append(many(101, "a"), none), append(many(99, "b"), none), api.ErrMany},
		{"as many as there may be, twice", append(many(199, "a"), none), append(many(199, "b"), none), api.ErrMany},
		{"too many, of which two are the same", append(many(150, "a"), none, b), append(many(150, "c"), none, b), api.ErrThere},
		{"all are the same", append(full, none), append(full, none), api.ErrThere},
	} {
		for _, op := range opsOfTwo() {
			got, err := series.Join(op, c.a, c.b)
			refuses(t, c.name, got, err, c.want)
			got, err = series.Join(op, c.b, c.a)
			refuses(t, c.name+", the other way round", got, err, c.want)
		}
	}
}

// P10.4: each of MaxSeries sets has all of MaxSeries others in it.
func TestJoinWhereAllFit(t *testing.T) {
	var parts, wholes []api.Series
	for i := range api.MaxSeries {
		part := api.Series{Value: num(1)}
		for bit := range 8 {
			if i>>bit&1 == 1 {
				part.Labels = append(part.Labels, wide(8)[bit])
			}
		}
		parts = append(parts, part)
		wholes = append(wholes, api.Series{Labels: append(wide(8), api.Label{Name: "z", Value: strconv.Itoa(i + 1)}), Value: num(1)})
	}
	got, err := series.Join("+", parts, wholes)
	refuses(t, "all fit", got, err, api.ErrThere)
	got, err = series.Join("+", parts[199:], wholes)
	if err != api.OK || len(got) != api.MaxSeries {
		t.Errorf("one to all: %d, error %d", len(got), err)
	}
}

// P10.4: Sort's error of a, of b, then the operation, then what it came to.
func TestJoinRefusesInOrder(t *testing.T) {
	ops := append(noOps(), "!", "abs", "floor", "is_null", "is_nan", "is_inf", "is_number")
	good, twice := []api.Series{of(1, "a", "1")}, []api.Series{of(1), of(1, "a", "1")}
	for _, op := range ops {
		for _, a := range [][]api.Series{nil, good, twice} {
			for _, b := range [][]api.Series{nil, good, twice} {
				got, err := series.Join(op, a, b)
				refuses(t, "Join "+op, got, err, api.ErrArg)
			}
		}
	}
	for _, c := range refused() {
		for _, op := range []string{"+", "none", "abs"} {
			for _, l := range [][]api.Series{nil, good, twice} {
				got, err := series.Join(op, c.l, l)
				refuses(t, "a: "+c.name, got, err, c.want)
				got, err = series.Join(op, l, c.l)
				refuses(t, "b: "+c.name, got, err, c.want)
			}
			for _, other := range refused() {
				got, err := series.Join(op, c.l[:min(len(c.l), 2000)], other.l[:min(len(other.l), 2000)])
				refuses(t, "a: "+c.name+", b: "+other.name, got, err, c.want)
			}
		}
	}
}

// saidJoin is what P10.4 says of two frames.
func saidJoin(op string, a, b []api.Series) ([]api.Series, api.Errno) {
	var l []api.Series
	for _, x := range a {
		for _, y := range b {
			if set, ok := saidFit(x.Labels, y.Labels); ok {
				v, _ := value.Do(op, x.Value, y.Value)
				l = append(l, api.Series{Labels: set, Value: v})
			}
		}
	}
	return saidFrame(l)
}

// P10.4
func TestJoinAgainstTheDocument(t *testing.T) {
	r := rand.New(rand.NewSource(6))
	some, none, there := 0, 0, 0
	for range 20000 {
		a, b := anyFrame(r, r.Intn(8), 3), anyFrame(r, r.Intn(4), 6)
		if r.Intn(2) == 0 {
			a, b = b, a
		}
		op := opsOfTwo()[r.Intn(12)]
		want, said := saidJoin(op, a, b)
		got, err := series.Join(op, a, b)
		switch {
		case said != api.OK:
			there++
			refuses(t, "Join "+op, got, err, said)
			continue
		case len(want) > 0:
			some++
		default:
			none++
		}
		is(t, "Join "+op, got, err, want)
	}
	if some < 2000 || none < 2000 || there < 1000 {
		t.Errorf("%d came to some, %d to none, %d to the same labels twice", some, none, there)
	}
}

// P10.7
func TestJoinWithAScalar(t *testing.T) {
	r := rand.New(rand.NewSource(7))
	for range 2000 {
		l, v, op := anyFrame(r, r.Intn(30), 6), anyValue(r), opsOfTwo()[r.Intn(12)]
		ahead, behind := clone(l), clone(l)
		for i, s := range l {
			ahead[i].Value, _ = value.Do(op, v, s.Value)
			behind[i].Value, _ = value.Do(op, s.Value, v)
		}
		ahead, _ = saidFrame(ahead)
		behind, _ = saidFrame(behind)
		isJoined(t, op, series.Scalar(v), l, ahead)
		isJoined(t, op, l, series.Scalar(v), behind)
	}
	for _, op := range opsOfTwo() {
		got, err := series.Join(op, many(api.MaxSeries, "a"), series.Scalar(num(1)))
		if err != api.OK || len(got) != api.MaxSeries {
			t.Errorf("MaxSeries series: %d, error %d", len(got), err)
		}
	}
}

// spoil writes over all that an answer has, spare room too.
func spoil(l []api.Series) {
	l = l[:cap(l)]
	for i := range l {
		set := l[i].Labels[:cap(l[i].Labels)]
		for j := range set {
			set[j] = api.Label{Name: "spoilt", Value: "spoilt"}
		}
		l[i] = api.Series{Value: num(-77)}
	}
}

// Rule 3: lists that are handed in stay, their spare room too, and no answer
// shares anything with them, or with another answer.
func TestSeriesStay(t *testing.T) {
	r := rand.New(rand.NewSource(8))
	for range 500 {
		rooms, others := shuffled(r, anyFrame(r, 12, 3)), shuffled(r, anyFrame(r, 4, 6))
		l, other := rooms[:r.Intn(len(rooms)+1)], others[:r.Intn(len(others)+1)]
		keptRooms, keptOthers := clone(rooms), clone(others)
		for name, call := range map[string]func() ([]api.Series, api.Errno){
			"Sort":                   func() ([]api.Series, api.Errno) { return series.Sort(l...) },
			"Map":                    func() ([]api.Series, api.Errno) { return series.Map("is_null", l...) },
			"Join":                   func() ([]api.Series, api.Errno) { return series.Join("==", l, other) },
			"Join, with no labels":   func() ([]api.Series, api.Errno) { return series.Join("==", l, series.Scalar(null)) },
			"Join, with none":        func() ([]api.Series, api.Errno) { return series.Join("==", nil, l) },
			"Join, with itself":      func() ([]api.Series, api.Errno) { return series.Join("==", l, l) },
			"Scalar":                 func() ([]api.Series, api.Errno) { return series.Scalar(num(1)), api.OK },
			"Map, of no operation":   func() ([]api.Series, api.Errno) { return series.Map("none", l...) },
			"Join, the other before": func() ([]api.Series, api.Errno) { return series.Join("-", other, l) },
		} {
			got, _ := call()
			kept := clone(got)
			again, _ := call()
			spoil(again)
			if !same(got, kept) {
				t.Fatalf("%s: an answer shares memory with another one", name)
			}
			if !same(rooms, keptRooms) || !same(others, keptOthers) {
				t.Fatalf("%s changed what it was given, or shares memory with it", name)
			}
		}
	}
}

// Rule 3: no two lists of one answer share any memory.
func TestListsOfAnAnswerAreApart(t *testing.T) {
	l := []api.Series{of(1, "a", "1"), of(2, "b", "1"), of(3, "c", "1")}
	l[2].Labels = list("b", "1", "c", "1")
	l[1].Labels = l[2].Labels[:1]
	for _, call := range []func() ([]api.Series, api.Errno){
		func() ([]api.Series, api.Errno) { return series.Sort(l...) },
		func() ([]api.Series, api.Errno) { return series.Map("-", l...) },
		func() ([]api.Series, api.Errno) { return series.Join("+", l, series.Scalar(num(1))) },
		func() ([]api.Series, api.Errno) { return series.Join("+", series.Scalar(num(1)), l) },
	} {
		got, err := call()
		if err != api.OK || len(got) != 3 {
			t.Fatalf("%v, error %d", got, err)
		}
		kept := clone(got)
		spoil(got[1:2:2])
		kept[1] = api.Series{Value: num(-77)}
		if !same(got, kept) {
			t.Errorf("%v, want %v", got, kept)
		}
	}
}
