package value_test

import (
	"math"
	"math/rand"
	"testing"

	"klaxon/api"
	"klaxon/value"
)

// P8.1
func TestNumbersAreMade(t *testing.T) {
	for _, n := range edgeNumbers() {
		if v := value.Num(n); v != num(n) {
			t.Errorf("Num(%d): %v", n, v)
		}
	}
	for _, n := range []int64{maxNum + 1, maxNum + 2, maxNum + 1000, 2 * maxNum, 1 << 62, math.MaxInt64 - 1, math.MaxInt64} {
		if v := value.Num(n); v != plus {
			t.Errorf("Num(%d): %v", n, v)
		}
		if v := value.Num(-n); v != minus {
			t.Errorf("Num(%d): %v", -n, v)
		}
	}
	if v := value.Num(math.MinInt64); v != minus {
		t.Errorf("Num of the least: %v", v)
	}
}

// P8.1
func TestOthersAreMade(t *testing.T) {
	for _, c := range []struct {
		name      string
		got, want api.Value
	}{
		{"Null", value.Null(), api.Value{Kind: 2}},
		{"NaN", value.NaN(), api.Value{Kind: 3}},
		{"Plus", value.Plus(), api.Value{Kind: 4}},
		{"Minus", value.Minus(), api.Value{Kind: 5}},
		{"Truth(true)", value.Truth(true), api.Value{Kind: 1, N: 1000}},
		{"Truth(false)", value.Truth(false), api.Value{Kind: 1}},
	} {
		if c.got != c.want {
			t.Errorf("%s: %v, want %v", c.name, c.got, c.want)
		}
	}
}

// P8.2
func TestValuesAreTaken(t *testing.T) {
	if err := value.Check(); err != api.OK {
		t.Errorf("none: error %d", err)
	}
	if err := value.Check([]api.Value{}...); err != api.OK {
		t.Errorf("an empty list: error %d", err)
	}
	for _, v := range edgeValues() {
		if err := value.Check(v); err != api.OK {
			t.Errorf("%v: error %d", v, err)
		}
	}
	if err := value.Check(edgeValues()...); err != api.OK {
		t.Errorf("all of them: error %d", err)
	}
}

// P8.2: at each place of a list.
func TestNoValuesAreRefused(t *testing.T) {
	for _, v := range noValues() {
		for _, l := range [][]api.Value{{v}, {v, v}, {v, null}, {num(0), v}, {v, num(1), plus}, {nan, v, minus}, {num(maxNum), null, v}} {
			if err := value.Check(l...); err != api.ErrValue {
				t.Errorf("%v: error %d", l, err)
			}
		}
		l := edgeValues()
		for place := range l {
			l[place] = v
			if err := value.Check(l...); err != api.ErrValue {
				t.Errorf("%v at %d of many: error %d", v, place, err)
			}
			l[place] = null
		}
	}
}

// P8.4
func TestWhatIsTrue(t *testing.T) {
	for _, v := range edgeValues() {
		want := v != null && v != num(0)
		if got := value.True(v); got != want {
			t.Errorf("True(%v): %v", v, got)
		}
	}
	for _, v := range []api.Value{nan, plus, minus, num(1), num(-1), num(1000), value.Truth(true)} {
		if !value.True(v) {
			t.Errorf("%v is not true", v)
		}
	}
	for _, v := range []api.Value{null, num(0), value.Truth(false)} {
		if value.True(v) {
			t.Errorf("%v is true", v)
		}
	}
}

// P8.4: what is no value is neither a number nor one of the others.
func TestNoValueIsTrue(t *testing.T) {
	for _, v := range noValues() {
		if value.True(v) {
			t.Errorf("%v is true", v)
		}
	}
}

// Rule 3: lists that are handed in stay, their spare room too.
func TestListsStay(t *testing.T) {
	r := rand.New(rand.NewSource(1))
	for _, op := range append(unary(), binary()...) {
		for range 50 {
			var room, kept [5]api.Value
			for i := range room {
				room[i] = anyValue(r)
			}
			kept = room
			for n := range room {
				value.Check(room[:n]...)
				value.Do(op, room[:n]...)
			}
			if room != kept {
				t.Fatalf("%s: %v became %v", op, kept, room)
			}
		}
	}
}
