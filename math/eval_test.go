package math_test

import (
	"math/rand"
	"reflect"
	"slices"
	"strconv"
	"strings"
	"testing"

	"klaxon/api"
	"klaxon/math"
	"klaxon/series"
)

// of is a series of a number, with labels of names and values in turn.
func of(n int64, words ...string) api.Series {
	s := api.Series{Value: num(n)}
	for i := 0; i < len(words); i += 2 {
		s.Labels = append(s.Labels, api.Label{Name: words[i], Value: words[i+1]})
	}
	return s
}

// many is a frame of so many series, each with one label of this name.
func many(n int, name string) []api.Series {
	var l []api.Series
	for i := range n {
		l = append(l, of(int64(i), name, strconv.Itoa(100000+i)))
	}
	return l
}

// frame is what a node has told.
func frame(ref string, l ...api.Series) api.Frame { return api.Frame{Ref: ref, Series: l} }

func same(a, b []api.Series) bool {
	return slices.EqualFunc(a, b, func(x, y api.Series) bool {
		return x.Value == y.Value && slices.Equal(x.Labels, y.Labels)
	})
}

// evals asks that an expression comes to just this frame.
func evals(t *testing.T, s string, want []api.Series, env ...api.Frame) {
	t.Helper()
	got, err := math.Eval(parsed(t, s), env...)
	if err != api.OK || !same(got, want) {
		t.Errorf("Eval %s: %v, error %d, want %v", brief(s), got, err, want)
	}
}

// fails asks that an expression comes to none, with this error.
func fails(t *testing.T, s string, want api.Errno, env ...api.Frame) {
	t.Helper()
	got, err := math.Eval(parsed(t, s), env...)
	if err != want || got != nil {
		t.Errorf("Eval %s: %d series, error %d, want %d", brief(s), len(got), err, want)
	}
}

// P11.4
func TestEvalOfValues(t *testing.T) {
	for s, want := range map[string]api.Value{
		"0": num(0), "1.5": num(1500), "null": null, "nan": nan, "inf": plus, "-inf": minus, "1+2*3": num(7000), "(1+2)*3": num(9000), "7-2-3": num(2000), "7-(2-3)": num(8000), "8/4/2": num(1000),
		"1<2": num(1000), "2<1": num(0), "1<2&&2<1": num(0), "1<2||2<1": num(1000), "!0": num(1000), "!5": num(0), "-1.5": num(-1500), "abs(-1.5)": num(1500), "floor(-1.5)": num(-2000), "floor(1.5)": num(1000),
		"is_null(null)": num(1000), "is_null(nan)": num(0), "is_nan(0/0)": num(1000), "is_inf(1/0)": num(1000), "is_inf(-1/0)": num(1000), "is_number(1)": num(1000), "is_number(inf)": num(0), "null>1": null, "nan!=nan": num(1000), "nan==nan": num(0),
		"1000000000000+1": plus, "-1000000000000-1": minus, "1/3": num(333), "1==1": num(1000), "1!=1": num(0), "1<=1": num(1000), "1>=2": num(0), "2>1": num(1000), "inf-inf": nan,
	} {
		evals(t, s, []api.Series{{Value: want}})
		evals(t, s, []api.Series{{Value: want}}, frame("A", of(1)))
	}
}

// P11.4
func TestEvalOfRefs(t *testing.T) {
	a, b := of(1000, "a", "1"), of(2000, "b", "1")
	both := []api.Series{a, b}
	evals(t, "$A", []api.Series{of(-1000)}, frame("A", of(-1000)))
	evals(t, "abs($A)", []api.Series{of(1000)}, frame("A", of(-1000)))
	evals(t, "$A", both, frame("A", a, b))
	evals(t, "$A", both, frame("A", b, a))
	evals(t, "$A", nil, frame("A"))
	evals(t, "$A", nil, frame("A", []api.Series{}...))
	evals(t, "$A", many(api.MaxSeries, "a"), frame("A", many(api.MaxSeries, "a")...))
	evals(t, "$B", []api.Series{b}, frame("A", a), frame("B", b), frame("C", a))
	// The last one counts, whatever stands ahead of it.
	evals(t, "$A", []api.Series{b}, frame("A", a), frame("A", b))
	evals(t, "$A", []api.Series{b}, frame("A", a), frame("A"), frame("A", b), frame("B", a))
	evals(t, "$A", nil, frame("A", a), frame("A"))
	evals(t, "$A", []api.Series{b}, frame("A", api.Series{}), frame("A", b))
	fails(t, "$A", api.ErrValue, frame("A", b), frame("A", api.Series{}))
	evals(t, "$A-$B", []api.Series{of(-3)}, frame("B", of(1)), frame("A", of(2)), frame("B", of(5)))
	for _, ref := range []string{"", "a", "B", "AA", "$A", "A ", " A"} {
		fails(t, "$A", api.ErrNone, frame(ref, a))
	}
	fails(t, "$A", api.ErrNone)
	fails(t, "$A", api.ErrNone, []api.Frame{}...)
	long := strings.Repeat("A", api.MaxRef)
	evals(t, "$"+long, []api.Series{b}, frame(long[1:], a), frame(long, b))
	fails(t, "$"+long, api.ErrNone, frame(long[1:], a))
}

// P11.4: an operation is Map's, or Join's, of what its operands come to.
func TestEvalOfFrames(t *testing.T) {
	env := []api.Frame{
		frame("A", of(3000, "h", "2"), of(-1500, "h", "1")),
		frame("B", of(10000, "h", "1", "j", "x"), of(20000, "h", "2", "j", "x"), of(30000, "h", "2", "j", "y"), of(40000, "h", "3")),
		frame("C", of(2000)),
		frame("D"),
		frame("E", of(1000, "z", "1")),
	}
	for s, want := range map[string][]api.Series{
		"abs($A)":                  {of(1500, "h", "1"), of(3000, "h", "2")},
		"floor($A)":                {of(-2000, "h", "1"), of(3000, "h", "2")},
		"-$A":                      {of(1500, "h", "1"), of(-3000, "h", "2")},
		"!$A":                      {of(0, "h", "1"), of(0, "h", "2")},
		"$A>0":                     {of(0, "h", "1"), of(1000, "h", "2")},
		"0>$A":                     {of(1000, "h", "1"), of(0, "h", "2")},
		"$A*$C":                    {of(-3000, "h", "1"), of(6000, "h", "2")},
		"$A-$A":                    {of(0, "h", "1"), of(0, "h", "2")},
		"$B-$A":                    {of(11500, "h", "1", "j", "x"), of(17000, "h", "2", "j", "x"), of(27000, "h", "2", "j", "y")},
		"$A-$B":                    {of(-11500, "h", "1", "j", "x"), of(-17000, "h", "2", "j", "x"), of(-27000, "h", "2", "j", "y")},
		"$B+$A*$C":                 {of(7000, "h", "1", "j", "x"), of(26000, "h", "2", "j", "x"), of(36000, "h", "2", "j", "y")},
		"$A>0&&$B>25":              {of(0, "h", "1", "j", "x"), of(0, "h", "2", "j", "x"), of(1000, "h", "2", "j", "y")},
		"$A>0||$B>25":              {of(0, "h", "1", "j", "x"), of(1000, "h", "2", "j", "x"), of(1000, "h", "2", "j", "y")},
		"$D":                       nil,
		"-$D":                      nil,
		"is_null($D)":              nil,
		"$D+1":                     nil,
		"1||$D":                    nil,
		"$A+$E":                    nil,
		"$E==$A":                   nil,
		"abs($A+$E)*2":             nil,
		"is_number($C)":            {of(1000)},
		"$C":                       {of(2000)},
		"1+1==$C":                  {of(1000)},
		"is_nan($A/0*0)||$A==-1.5": {of(1000, "h", "1"), of(1000, "h", "2")},
	} {
		evals(t, s, want, env...)
	}
}

// P11.4: the error of a ref is series.Sort's.
func TestEvalOfRefsThatAreNoFrames(t *testing.T) {
	noSet := of(1, "b", "1", "a", "1")
	noLabel := of(1, "a", "")
	noValue := api.Series{Value: api.Value{Kind: api.ValueNum, N: maxNum + 1}}
	for _, c := range []struct {
		name string
		l    []api.Series
		want api.Errno
	}{
		{"no set", []api.Series{noSet}, api.ErrLabel},
		{"no label", []api.Series{of(2), noLabel}, api.ErrLabel},
		{"no value", []api.Series{of(2, "a", "1"), noValue}, api.ErrValue},
		{"no value and no set", []api.Series{noValue, noSet}, api.ErrLabel},
		{"the same twice", []api.Series{of(1, "a", "1"), of(2), of(3, "a", "1")}, api.ErrThere},
		{"the same twice and no value", []api.Series{of(1), of(1), noValue}, api.ErrValue},
		{"too many", many(api.MaxSeries+1, "a"), api.ErrMany},
		{"too many, one twice", append(many(api.MaxSeries+1, "a"), many(1, "a")...), api.ErrThere},
	} {
		bad := frame("A", c.l...)
		for _, s := range []string{"$A", "($A)", "-$A", "abs($A)", "$A+1", "1+$A", "$A+$B", "$B+$A", "$A*$C", "!(1<$A)", "$A==$A"} {
			want := c.want
			if s == "$B+$A" {
				want = api.ErrNone
			}
			fails(t, s, want, bad, frame("C", of(1)))
			evals(t, "$C", []api.Series{of(1)}, bad, frame("C", of(1)))
		}
	}
}

// P11.4: of several errors the first one, from the left, the inner ones first.
func TestEvalTellsTheFirstError(t *testing.T) {
	env := []api.Frame{
		frame("Label", of(1, "a", "")),
		frame("Value", api.Series{}),
		frame("There", of(1), of(1)),
		frame("Many", many(api.MaxSeries+1, "a")...),
		frame("Ok", of(1)),
		frame("A", append(many(150, "a"), of(1))...),
		frame("B", append(many(150, "b"), of(1))...),
		frame("C", of(1, "a", "1"), of(2, "b", "1")),
		frame("D", of(1, "a", "1", "b", "1"), of(2)),
		frame("E", of(5), of(1, "a", "1"), of(2, "a", "1", "b", "1")),
	}
	wrong := map[string]api.Errno{
		"$Label": api.ErrLabel, "$Value": api.ErrValue, "$There": api.ErrThere, "$Many": api.ErrMany, "$None": api.ErrNone,
		// These are Join's own: 300 series and one, and two ways to one set.
		"($A+$B)": api.ErrMany, "($C*$D)": api.ErrThere, "($E-$E)": api.ErrThere, "abs($A==$B)": api.ErrMany, "-($C&&$D)": api.ErrThere,
	}
	for s, err := range wrong {
		for _, ok := range []string{s, "-" + s, "abs(" + s + ")", s + "+1", "1+" + s, "$Ok*" + s, s + "<$Ok", "1-(2-(3-" + s + "))", "1&&2||" + s} {
			fails(t, ok, err, env...)
		}
		for other, later := range wrong {
			for _, op := range opsOfTwo() {
				fails(t, s+op+other, err, env...)
			}
			fails(t, "(1+"+s+")*"+other, err, env...)
			fails(t, "("+s+"+1)*-"+other, err, env...)
			fails(t, "($A+"+s+")+("+other+"+$B)", err, env...)
			fails(t, "$Ok*(2-"+other+")+"+s, later, env...)
			// The operands' errors come ahead of the operation's own.
			fails(t, "$A+$B*"+s, err, env...)
		}
	}
	for _, op := range opsOfTwo() {
		fails(t, "$A"+op+"$B", api.ErrMany, env...)
		fails(t, "$C"+op+"$D", api.ErrThere, env...)
		evals(t, "$A"+op+"$C"+" && 0", nil, frame("A", of(1, "a", "1")), frame("C", of(1, "a", "2")))
	}
}

// P11.4: MaxSeries on the way, and as many as an expression may have.
func TestEvalOfMany(t *testing.T) {
	full := frame("A", many(api.MaxSeries, "a")...)
	s := "$A" + strings.Repeat("+$A-$A", (api.MaxExpr-2)/6)
	evals(t, s, full.Series, full)
	evals(t, "1"+strings.Repeat("+1", 500), []api.Series{of(501000)})
	evals(t, strings.Repeat("-", api.MaxNest)+"$A", full.Series, full)
	got, err := math.Eval(parsed(t, "$A*$B"), frame("A", many(api.MaxSeries-1, "a")...), frame("B", of(1000)))
	if err != api.OK || !same(got, many(api.MaxSeries-1, "a")) {
		t.Errorf("%d series, error %d", len(got), err)
	}
}

// deepEnv is frames with spare room of their own, whose bytes can be held
// against what they were.
func deepEnv(env []api.Frame) []api.Frame {
	own := make([]api.Frame, len(env), len(env)+2)
	copy(own, env)
	for i, f := range env {
		own[i].Series = make([]api.Series, len(f.Series), len(f.Series)+2)
		copy(own[i].Series, f.Series)
		for j, s := range f.Series {
			own[i].Series[j].Labels = make([]api.Label, len(s.Labels), len(s.Labels)+2)
			copy(own[i].Series[j].Labels, s.Labels)
		}
	}
	return own
}

// withSpare is the frames with all that lies behind their ends.
func withSpare(env []api.Frame) []api.Frame {
	env = slices.Clone(env[:cap(env)])
	for i, f := range env {
		env[i].Series = slices.Clone(f.Series[:cap(f.Series)])
		for j, s := range env[i].Series {
			env[i].Series[j].Labels = slices.Clone(s.Labels[:cap(s.Labels)])
		}
	}
	return env
}

// P11.4: what is handed in stays as it was, and what is answered is new.
func TestEvalLeavesAllAsItWas(t *testing.T) {
	env := deepEnv([]api.Frame{
		frame("B", of(3, "b", "1"), of(1), of(2, "a", "1")),
		frame("A", of(30, "b", "1"), of(20, "a", "1"), of(10, "a", "1", "b", "2")),
		frame("C", of(5, "b", "1", "a", "1")),
		frame("D", of(5)),
	})
	before := withSpare(env)
	for _, s := range []string{"1", "null", "$A", "$B", "$D", "-$A", "abs($B)", "$A+1", "2*$A", "$A-$D", "$D+$B", "$A+$B", "$C", "$A*$C", "$A+$A", "$None-$A"} {
		x := parsed(t, s)
		tree := cloneTree(x)
		first, err := math.Eval(x, env...)
		want := withSpare([]api.Frame{{Series: first}})[0].Series[:len(first)]
		for i := range first {
			for j := range first[i].Labels[:cap(first[i].Labels)] {
				first[i].Labels[:cap(first[i].Labels)][j] = api.Label{Name: "x", Value: "y"}
			}
			first[i].Value = minus
		}
		again, errAgain := math.Eval(x, env...)
		if !same(again, want) || errAgain != err {
			t.Errorf("%s: %v, then %v", s, want, again)
		}
		if !reflect.DeepEqual(withSpare(env), before) || !reflect.DeepEqual(x, tree) {
			t.Fatalf("%s changes what it is given", s)
		}
	}
}

// P11.4: against the document, with frames of labels.
func TestEvalAgainstTheDocument(t *testing.T) {
	r := rand.New(rand.NewSource(4))
	count := map[api.Errno]int{}
	for range 5000 {
		var env []api.Frame
		for range r.Intn(7) {
			env = append(env, frame(string(rune('A'+r.Intn(4))), anySeries(r)...))
		}
		x := parsed(t, anyText(r, r.Intn(6)))
		want, wantErr := saidFrame(x, env)
		got, err := math.Eval(x, env...)
		if err != wantErr || !same(got, want) || err != api.OK && got != nil {
			t.Fatalf("%s of %v: %v, error %d, want %v, %d", math.Print(x), env, got, err, want, wantErr)
		}
		count[err]++
	}
	if count[api.OK] < 1000 || count[api.ErrNone] < 1000 || count[api.ErrThere] < 20 || count[api.ErrValue] < 20 {
		t.Errorf("few of some kinds: %v", count)
	}
}

// saidFrame is what P11.4 says of x.
func saidFrame(x api.Expr, env []api.Frame) ([]api.Series, api.Errno) {
	switch {
	case x.Kind == api.ExprNum:
		return []api.Series{{Value: x.Value}}, api.OK
	case x.Kind == api.ExprRef:
		l, err := []api.Series(nil), api.ErrNone
		for _, f := range env {
			if f.Ref == x.Name {
				l, err = series.Sort(f.Series...)
			}
		}
		return l, err
	}
	a, err := saidFrame(x.Kids[0], env)
	if err != api.OK {
		return nil, err
	}
	if len(x.Kids) == 1 {
		return series.Map(x.Name, a...)
	}
	b, err := saidFrame(x.Kids[1], env)
	if err != api.OK {
		return nil, err
	}
	return series.Join(x.Name, a, b)
}

// anySeries is some series that often fit others, and are mostly a frame.
func anySeries(r *rand.Rand) []api.Series {
	all := []api.Series{of(1000), of(2000, "a", "1"), of(-3000, "a", "2"), of(0, "a", "1", "b", "1"), of(5, "b", "1"), {Value: null}, of(1500, "a", "2", "b", "2"), {}}
	var l []api.Series
	for range r.Intn(4) {
		l = append(l, all[min(r.Intn(len(all)), r.Intn(len(all)))])
	}
	return l
}
