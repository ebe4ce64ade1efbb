package series_test

import (
	"math/rand"
	"slices"
	"testing"

	"klaxon/api"
	"klaxon/series"
)

// P10.2
func TestSort(t *testing.T) {
	for _, c := range []struct{ in, want []api.Series }{
		{nil, nil},
		{[]api.Series{}, nil},
		{[]api.Series{of(1)}, []api.Series{of(1)}},
		{[]api.Series{of(1, "a", "1")}, []api.Series{of(1, "a", "1")}},
		{[]api.Series{of(1, "b", "1"), of(2, "a", "1")}, []api.Series{of(2, "a", "1"), of(1, "b", "1")}},
		{[]api.Series{of(1, "a", "2"), of(2, "a", "1")}, []api.Series{of(2, "a", "1"), of(1, "a", "2")}},
		{[]api.Series{of(1, "a", "1", "b", "1"), of(2, "a", "1"), of(3)}, []api.Series{of(3), of(2, "a", "1"), of(1, "a", "1", "b", "1")}},
		{[]api.Series{of(1, "a", "9"), of(2, "a", "10"), of(3, "a", "1", "b", "2")}, []api.Series{of(3, "a", "1", "b", "2"), of(2, "a", "10"), of(1, "a", "9")}},
		{[]api.Series{of(1, "b", "1"), of(2, "a", "2", "b", "1"), of(3, "B", "9")}, []api.Series{of(3, "B", "9"), of(2, "a", "2", "b", "1"), of(1, "b", "1")}},
		{[]api.Series{of(5, "a", "1", "c", "1"), of(5, "a", "1", "b", "2"), of(5, "a", "1", "b", "1", "z", "1")},
			[]api.Series{of(5, "a", "1", "b", "1", "z", "1"), of(5, "a", "1", "b", "2"), of(5, "a", "1", "c", "1")}},
		{[]api.Series{{Labels: wide(16), Value: plus}, {Labels: wide(15), Value: null}}, []api.Series{{Labels: wide(15), Value: null}, {Labels: wide(16), Value: plus}}},
		{many(api.MaxSeries, "a"), many(api.MaxSeries, "a")},
	} {
		got, err := series.Sort(c.in...)
		is(t, "Sort", got, err, c.want)
		back := slices.Clone(c.in)
		slices.Reverse(back)
		got, err = series.Sort(back...)
		is(t, "Sort, from the last one on", got, err, c.want)
	}
}

// P10.2: each kind of value is one, at its edges too.
func TestSortTakesEachValue(t *testing.T) {
	for _, v := range []api.Value{num(0), num(1), num(-1), num(maxNum), num(-maxNum), null, nan, plus, minus} {
		l := []api.Series{{Labels: list("b", "1"), Value: v}, {Value: v}}
		got, err := series.Sort(l...)
		is(t, "Sort", got, err, []api.Series{l[1], l[0]})
	}
}

// refused has series that are no frame in any order, each with the error that
// comes first.
func refused() []struct {
	name string
	l    []api.Series
	want api.Errno
} {
	full := many(api.MaxSeries, "a")
	wrongLabel := api.Series{Labels: list("b", "1", "a", "1"), Value: num(1)}
	wrongValue := api.Series{Labels: list("v", "1"), Value: num(maxNum + 1)}
	both := api.Series{Labels: list("a", ""), Value: api.Value{}}
	return []struct {
		name string
		l    []api.Series
		want api.Errno
	}{
		{"labels that are no set", []api.Series{of(1), wrongLabel}, api.ErrLabel},
		{"a value that is none", []api.Series{of(1), wrongValue}, api.ErrValue},
		{"one with neither", []api.Series{of(1), both}, api.ErrLabel},
		{"labels of one, the value of another", []api.Series{wrongValue, wrongLabel}, api.ErrLabel},
		{"no labels, twice", []api.Series{of(1), of(1)}, api.ErrThere},
		{"no labels, twice, of unlike values", []api.Series{of(1), of(2)}, api.ErrThere},
		{"the same labels", []api.Series{of(1, "a", "1"), of(1, "b", "1"), of(2, "a", "1")}, api.ErrThere},
		{"the greatest labels twice", []api.Series{of(1, "a", "1"), of(1, "b", "1"), of(2, "b", "1")}, api.ErrThere},
		{"sixteen labels, twice", []api.Series{{Labels: wide(16), Value: null}, {Labels: wide(16), Value: nan}}, api.ErrThere},
		{"the same labels that are no set", []api.Series{wrongLabel, wrongLabel}, api.ErrLabel},
		{"the same labels, and a value that is none", []api.Series{of(1), of(1), wrongValue}, api.ErrValue},
		{"the same labels, one without a value", []api.Series{of(1), {}}, api.ErrValue},
		{"the same labels, and some that are no set", []api.Series{of(1), of(1), wrongLabel}, api.ErrLabel},
		{"one more", many(api.MaxSeries+1, "a"), api.ErrMany},
		{"many more", many(20000, "a"), api.ErrMany},
		{"one more, which is there", append(slices.Clone(full), full[77]), api.ErrThere},
		{"one more, whose labels are there", append(slices.Clone(full), of(-1, "a", "100199")), api.ErrThere},
		{"all of them twice", slices.Concat(full, full), api.ErrThere},
		{"one more, whose value is none", append(slices.Clone(full), wrongValue), api.ErrValue},
		{"one more, whose labels are no set", append(slices.Clone(full), wrongLabel), api.ErrLabel},
		{"one more, twice, with all faults", slices.Concat(full, full, []api.Series{wrongValue, wrongLabel}), api.ErrLabel},
	}
}

// P10.2
func TestSortRefuses(t *testing.T) {
	r := rand.New(rand.NewSource(1))
	for _, c := range refused() {
		for range 4 {
			got, err := series.Sort(c.l...)
			refuses(t, c.name, got, err, c.want)
			c.l = shuffled(r, c.l)
		}
	}
}

// P10.2
func TestSortRefusesWhatIsNone(t *testing.T) {
	for _, set := range noSets() {
		got, err := series.Sort(of(1, "z", "1"), api.Series{Labels: set, Value: num(1)})
		refuses(t, "labels that are no set", got, err, api.ErrLabel)
	}
	for _, v := range noValues() {
		got, err := series.Sort(of(1, "z", "1"), api.Series{Labels: list("a", "1"), Value: v})
		refuses(t, "a value that is none", got, err, api.ErrValue)
	}
}

// P10.6
func TestSortOfAnyOrder(t *testing.T) {
	r := rand.New(rand.NewSource(2))
	for range 2000 {
		l := anyFrame(r, r.Intn(40), 6)
		want, _ := saidFrame(l)
		got, err := series.Sort(l...)
		is(t, "Sort", got, err, want)
		got, err = series.Sort(shuffled(r, l)...)
		is(t, "Sort of another order", got, err, want)
		got, err = series.Sort(got...)
		is(t, "Sort of a frame", got, err, want)
	}
}

// P10.5
func TestScalar(t *testing.T) {
	for _, v := range []api.Value{num(0), num(1500), num(-maxNum), null, nan, plus, minus} {
		l := series.Scalar(v)
		if len(l) != 1 || len(l[0].Labels) != 0 || l[0].Value != v {
			t.Errorf("Scalar(%v): %v", v, l)
		}
		got, err := series.Sort(l...)
		is(t, "Sort of a Scalar", got, err, l)
	}
}

// P10.5: what is no value is kept too, so that Sort tells of it.
func TestScalarOfNoValue(t *testing.T) {
	for _, v := range noValues() {
		l := series.Scalar(v)
		if len(l) != 1 || len(l[0].Labels) != 0 || l[0].Value != v {
			t.Errorf("Scalar(%v): %v", v, l)
		}
		got, err := series.Sort(l...)
		refuses(t, "Sort of a Scalar of no value", got, err, api.ErrValue)
	}
}
