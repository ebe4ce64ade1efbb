package rule_test

import (
	"math"
	"strconv"
	"strings"
	"testing"

	"klaxon/api"
	"klaxon/dag"
)

// change is a rule that is some rule but for one thing.
func change(do func(r *api.Rule)) api.Rule {
	r := some()
	do(&r)
	return r
}

// P14.2
func TestRulesThatMayBe(t *testing.T) {
	accepts(t, "some", some())
	accepts(t, "full", full())
	accepts(t, "paused", change(func(r *api.Rule) { r.Paused = true }))
	accepts(t, "no labels", change(func(r *api.Rule) { r.Labels = []api.Label{} }))
	refuses(t, "the zero Rule", api.ErrRule, api.Rule{})
}

// P14.2
func TestCheckOfNames(t *testing.T) {
	for _, name := range []string{"a", "z", "0", "9", "-", "a-z-0-9", strings.Repeat("a", api.MaxFolder-1), strings.Repeat("z", api.MaxFolder), strings.Repeat("-", api.MaxFolder)} {
		accepts(t, "Folder "+name, change(func(r *api.Rule) { r.Folder = name }))
		accepts(t, "Group "+name, change(func(r *api.Rule) { r.Group = name }))
		accepts(t, "both "+name, change(func(r *api.Rule) { r.Folder, r.Group = name, name }))
	}
	for _, name := range noNames() {
		what := strconv.Quote(name[:min(len(name), 30)])
		refuses(t, "Folder "+what, api.ErrRule, change(func(r *api.Rule) { r.Folder = name }))
		refuses(t, "Group "+what, api.ErrRule, change(func(r *api.Rule) { r.Group = name }))
	}
	for c := range 256 {
		name := "a" + string([]byte{byte(c)}) + "b"
		want := accepts
		if !modelName.MatchString(name) {
			want = func(t *testing.T, what string, r api.Rule) { t.Helper(); refuses(t, what, api.ErrRule, r) }
		}
		want(t, "Folder with the byte "+strconv.Itoa(c), change(func(r *api.Rule) { r.Folder = name }))
		want(t, "Group with the byte "+strconv.Itoa(c), change(func(r *api.Rule) { r.Group = name }))
	}
}

// P14.2: a title is of whatever bytes.
func TestCheckOfTitles(t *testing.T) {
	titled := func(title string) api.Rule { return change(func(r *api.Rule) { r.Title = title }) }
	for c := range 256 {
		s := string([]byte{byte(c)})
		accepts(t, "a title of one byte", titled(s))
		accepts(t, "a title of 63 bytes", titled(strings.Repeat(s, api.MaxTitle-1)))
		accepts(t, "a title of 64 bytes", titled(strings.Repeat(s, api.MaxTitle)))
		refuses(t, "a title of 65 bytes", api.ErrRule, titled(strings.Repeat(s, api.MaxTitle+1)))
	}
	refuses(t, "no title", api.ErrRule, titled(""))
	refuses(t, "a long title", api.ErrRule, titled(strings.Repeat("t", 100000)))
	// Bytes count, not letters.
	accepts(t, "32 letters of 2 bytes", titled(strings.Repeat("ä", api.MaxTitle/2)))
	refuses(t, "33 letters of 2 bytes", api.ErrRule, titled(strings.Repeat("ä", api.MaxTitle/2+1)))
}

// P14.2
func TestCheckOfIntervals(t *testing.T) {
	for _, n := range []int64{1, 2, 127, 128, 16383, 16384, api.MaxInterval - 1, api.MaxInterval} {
		accepts(t, "Interval "+strconv.FormatInt(n, 10), change(func(r *api.Rule) { r.Interval = n }))
	}
	for _, n := range []int64{0, -1, -10, -api.MaxInterval, api.MaxInterval + 1, 1 << 32, 1<<32 + 1, math.MaxInt64, math.MinInt64, math.MinInt64 + 1} {
		refuses(t, "Interval "+strconv.FormatInt(n, 10), api.ErrRule, change(func(r *api.Rule) { r.Interval = n }))
		refuses(t, "Interval and Offset "+strconv.FormatInt(n, 10), api.ErrRule, change(func(r *api.Rule) { r.Interval, r.Offset = n, n-1 }))
	}
}

// P14.2: an Offset is from 0 to Interval - 1.
func TestCheckOfOffsets(t *testing.T) {
	for _, interval := range []int64{1, 2, 10, 300, api.MaxInterval} {
		with := func(offset int64) api.Rule {
			return change(func(r *api.Rule) { r.Interval, r.Offset = interval, offset })
		}
		accepts(t, "Offset 0", with(0))
		accepts(t, "Offset Interval / 2", with(interval/2))
		accepts(t, "Offset Interval - 1", with(interval-1))
		for _, n := range []int64{-1, interval, interval + 1, -interval, 1 << 40, math.MaxInt64, math.MinInt64} {
			refuses(t, "Offset "+strconv.FormatInt(n, 10), api.ErrRule, with(n))
		}
	}
}

// P14.2
func TestCheckOfHolds(t *testing.T) {
	for _, n := range []int64{0, 1, 127, 128, api.MaxHold - 1, api.MaxHold} {
		what := strconv.FormatInt(n, 10)
		accepts(t, "For "+what, change(func(r *api.Rule) { r.For = n }))
		accepts(t, "Keep "+what, change(func(r *api.Rule) { r.Keep = n }))
	}
	for _, n := range []int64{-1, -api.MaxHold, api.MaxHold + 1, 1 << 40, math.MaxInt64, math.MinInt64} {
		what := strconv.FormatInt(n, 10)
		refuses(t, "For "+what, api.ErrRule, change(func(r *api.Rule) { r.For = n }))
		refuses(t, "Keep "+what, api.ErrRule, change(func(r *api.Rule) { r.Keep = n }))
	}
}

// P14.2
func TestCheckOfPolicies(t *testing.T) {
	for _, n := range []int{api.PolicyState, api.PolicyAlert, api.PolicyNormal, api.PolicyKeep} {
		what := strconv.Itoa(n)
		accepts(t, "NoData "+what, change(func(r *api.Rule) { r.NoData = n }))
		accepts(t, "OnError "+what, change(func(r *api.Rule) { r.OnError = n }))
	}
	for _, n := range []int{0, 5, -1, -4, 6, 8, 257, 1<<32 + 1, math.MaxInt64, math.MinInt64} {
		what := strconv.Itoa(n)
		refuses(t, "NoData "+what, api.ErrRule, change(func(r *api.Rule) { r.NoData = n }))
		refuses(t, "OnError "+what, api.ErrRule, change(func(r *api.Rule) { r.OnError = n }))
	}
}

// P14.2
func TestCheckOfLabels(t *testing.T) {
	with := func(l []api.Label) api.Rule { return change(func(r *api.Rule) { r.Labels = l }) }
	for _, l := range [][]api.Label{
		nil, list("a", "1"), list("_", "\x00"), list("Z9", "\xff"), list("a", "1", "b", "1"), list("B", "2", "_", "1", "a", "0"), list("a", "1", "aa", "1"),
		list(strings.Repeat("a", api.MaxName), strings.Repeat("\xff", api.MaxLabel)),
		wide(api.MaxLabels - 1), wide(api.MaxLabels),
	} {
		accepts(t, "Labels "+brief(l), with(l))
	}
	for _, l := range noSets() {
		refuses(t, "Labels "+brief(l), api.ErrRule, with(l))
	}
}

// nodeFault is what makes dag.Check refuse the nodes of a rule that has still
// room for some.
type nodeFault struct {
	what string
	err  api.Errno
	do   func(r *api.Rule)
}

func nodeFaults() []nodeFault {
	adds := func(l ...api.Node) func(r *api.Rule) {
		return func(r *api.Rule) { r.Nodes = append(r.Nodes, l...) }
	}
	return []nodeFault{
		{"too many nodes", api.ErrMany, adds(queries(api.MaxNodes)...)},
		{"far too many nodes", api.ErrMany, adds(queries(1000)...)},
		{"a Ref that is none", api.ErrNode, adds(query("b"))},
		{"a zero node", api.ErrNode, adds(api.Node{})},
		{"a Kind of 0", api.ErrNode, adds(api.Node{Ref: "X"})},
		{"a Kind of 5", api.ErrNode, adds(api.Node{Ref: "X", Kind: api.NodeThreshold + 1})},
		{"a Kind that is very great", api.ErrNode, adds(api.Node{Ref: "X", Kind: 1<<32 + 1, Source: "s"})},
		{"a query without a source", api.ErrNode, adds(api.Node{Ref: "X", Kind: api.NodeQuery})},
		{"a query with a long source", api.ErrNode, adds(api.Node{Ref: "X", Kind: api.NodeQuery, Source: strings.Repeat("s", api.MaxSource+1)})},
		{"a query that is strict", api.ErrNode, adds(api.Node{Ref: "X", Kind: api.NodeQuery, Source: "s", Strict: true})},
		{"a query with a High", api.ErrNode, adds(api.Node{Ref: "X", Kind: api.NodeQuery, Source: "s", High: num(0)})},
		{"a reduce that is none", api.ErrNode, adds(api.Node{Ref: "X", Kind: api.NodeReduce, Input: "A", How: "avg"})},
		{"a math without a tree", api.ErrNode, adds(expr("X", "1 +"))},
		{"a math with a long text", api.ErrNode, adds(expr("X", "1"+strings.Repeat(" ", api.MaxExpr)))},
		{"a threshold without a Low", api.ErrNode, adds(api.Node{Ref: "X", Kind: api.NodeThreshold, Input: "A", How: "gt"})},
		{"a threshold with a great Low", api.ErrNode, adds(api.Node{Ref: "X", Kind: api.NodeThreshold, Input: "A", How: "gt", Low: num(math.MinInt64)})},
		{"two nodes of one Ref", api.ErrThere, adds(query("X"), query("X"))},
		{"an Input that is none", api.ErrNone, adds(reduce("X", "Gone"))},
		{"an Input of no byte", api.ErrNone, adds(reduce("X", ""))},
		{"a long Input", api.ErrNone, adds(reduce("X", strings.Repeat("A", 100000)))},
		{"a ref in a Text that is none", api.ErrNone, adds(expr("X", "$Gone"))},
		{"a condition that is none", api.ErrNone, func(r *api.Rule) { r.Condition = "Gone" }},
		{"a condition of no byte", api.ErrNone, func(r *api.Rule) { r.Condition = "" }},
		{"a long condition", api.ErrNone, func(r *api.Rule) { r.Condition = strings.Repeat("A", 100000) }},
		{"a circle of one", api.ErrCycle, adds(reduce("X", "X"))},
		{"a circle of three", api.ErrCycle, adds(reduce("X", "Y"), expr("Y", "$A + $Z"), expr("Z", "-$X"))},
	}
}

// P14.2: the errors of dag.Check, each of them.
func TestCheckOfNodes(t *testing.T) {
	seen := map[api.Errno]int{}
	for _, f := range nodeFaults() {
		r := change(f.do)
		refuses(t, f.what, f.err, r)
		if err := dag.Check(r.Condition, r.Nodes...); err != f.err {
			t.Errorf("%s: dag.Check: error %d, want %d", f.what, err, f.err)
		}
		seen[f.err]++
	}
	for _, err := range []api.Errno{api.ErrMany, api.ErrNode, api.ErrThere, api.ErrNone, api.ErrCycle} {
		if seen[err] == 0 {
			t.Errorf("no rule has the error %d", err)
		}
	}
	refuses(t, "no nodes", api.ErrNone, change(func(r *api.Rule) { r.Nodes = nil }))
	refuses(t, "no nodes, no condition", api.ErrNone, change(func(r *api.Rule) { r.Nodes, r.Condition = nil, "" }))
	accepts(t, "texts as long as may be", change(func(r *api.Rule) {
		r.Condition = "C" + strings.Repeat("z", api.MaxRef-1)
		r.Nodes[0].Source = strings.Repeat("\xff", api.MaxSource)
		r.Nodes = append(r.Nodes, expr(r.Condition, "$A"+strings.Repeat(" ", api.MaxExpr-2)), reduce("D", r.Condition))
	}))
	accepts(t, "bounds as far off as may be", change(func(r *api.Rule) {
		r.Nodes = append(r.Nodes, api.Node{Ref: "B", Kind: api.NodeThreshold, Input: "A", How: "out", Low: num(-api.MaxNum), High: num(api.MaxNum)})
	}))
	accepts(t, "as many nodes as may be", change(func(r *api.Rule) { r.Nodes, r.Condition = queries(api.MaxNodes), "Q107" }))
}

// P14.2: a rule of just MaxRule bytes, and of one more.
func TestCheckOfSizes(t *testing.T) {
	for size := api.MaxRule - 3; size <= api.MaxRule; size++ {
		accepts(t, strconv.Itoa(size)+" bytes", ofSize(t, size))
	}
	for _, size := range []int{api.MaxRule + 1, api.MaxRule + 2, api.MaxRule + 500} {
		refuses(t, strconv.Itoa(size)+" bytes", api.ErrLong, ofSize(t, size))
	}
	r := full()
	r.Nodes = nil
	for i := range api.MaxNodes {
		r.Nodes = append(r.Nodes, expr("D"+strings.Repeat("x", i%2)+strconv.Itoa(i), "1"+strings.Repeat(" ", api.MaxExpr-1)))
	}
	r.Condition = "D0"
	refuses(t, "all texts as long as may be", api.ErrLong, r)
}

// P14.2: each byte of a rule counts, whichever field has it.
func TestCheckOfSizesByFields(t *testing.T) {
	longer := []struct {
		what string
		do   func(r *api.Rule)
	}{
		{"Folder", func(r *api.Rule) { r.Folder += "x" }},
		{"Group", func(r *api.Rule) { r.Group += "x" }},
		{"Title", func(r *api.Rule) { r.Title += "x" }},
		{"Interval", func(r *api.Rule) { r.Interval = 128 }},
		{"Offset", func(r *api.Rule) { r.Interval, r.Offset = 127, 126; r.Title += "x" }},
		{"For", func(r *api.Rule) { r.For = 128 }},
		{"Keep", func(r *api.Rule) { r.Keep = 128 }},
		{"Labels", func(r *api.Rule) { r.Labels = list("a", "1") }},
		{"a Source", func(r *api.Rule) { r.Nodes[0].Source += "x" }},
	}
	for _, l := range longer {
		r := ofSize(t, api.MaxRule)
		l.do(&r)
		refuses(t, "a longer "+l.what, api.ErrLong, r)
		r = ofSize(t, api.MaxRule-10)
		l.do(&r)
		accepts(t, "a longer "+l.what+", and room for it", r)
	}
}

// ruleFaults is what makes a rule ErrRule, one thing each.
func ruleFaults() []func(r *api.Rule) {
	return []func(r *api.Rule){
		func(r *api.Rule) { r.Folder = "" },
		func(r *api.Rule) { r.Group = "G" },
		func(r *api.Rule) { r.Title = "" },
		func(r *api.Rule) { r.Interval = 0 },
		func(r *api.Rule) { r.Offset = r.Interval },
		func(r *api.Rule) { r.For = -1 },
		func(r *api.Rule) { r.Keep = api.MaxHold + 1 },
		func(r *api.Rule) { r.NoData = 0 },
		func(r *api.Rule) { r.OnError = 5 },
		func(r *api.Rule) { r.Labels = list("a", "") },
	}
}

// P14.2: of several errors the one that the document names first.
func TestCheckTellsTheFirstError(t *testing.T) {
	for _, size := range []int{0, api.MaxRule + 1} {
		base := some
		if size > 0 {
			base = func() api.Rule { return ofSize(t, size) }
			refuses(t, "too long", api.ErrLong, base())
		}
		for _, f := range nodeFaults() {
			r := base()
			f.do(&r)
			refuses(t, f.what, f.err, r)
			for _, wrong := range ruleFaults() {
				r := base()
				f.do(&r)
				wrong(&r)
				refuses(t, "ErrRule, and "+f.what, api.ErrRule, r)
			}
		}
		for _, wrong := range ruleFaults() {
			r := base()
			wrong(&r)
			refuses(t, "ErrRule", api.ErrRule, r)
		}
	}
}

// The chapter's examples.
func TestExamples(t *testing.T) {
	refuses(t, "an Interval of 0", api.ErrRule, change(func(r *api.Rule) { r.Interval = 0 }))
	refuses(t, "a Condition that is no node", api.ErrNone, change(func(r *api.Rule) { r.Condition = "B" }))
}
