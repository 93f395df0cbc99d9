package tests

import (
	"math"
	"slices"
	"strconv"
	"strings"
	"testing"

	"loop.example/faultcleanup/impl"
)

// way1 is a trace with frames that come again, one after the other and later.
const way1 = "main 1 f 3 f 3 f 3 g 7 f 3 f 4"

// noFuncs are names of no function of any trace here: other ones, and ones that are no names.
var noFuncs = []string{"no", "mai", "mainx", "F", "", " ", "f:1", "f 1", "f\x00", "\xff", "seventh"}

func TestLimitsOfTraces(t *testing.T) {
	if impl.MaxFrames != 12 || impl.MaxLine != 999 {
		t.Errorf("MaxFrames, MaxLine = %d, %d", impl.MaxFrames, impl.MaxLine)
	}
}

func TestValidTrace(t *testing.T) {
	for _, x := range someTraces() {
		if !impl.ValidTrace(x) {
			t.Errorf("ValidTrace(%v) is false", x)
		}
	}
	for _, s := range []string{"", "a 1", "z 1", "abcdef 999", "f 1 f 1", "f 999 f 1 f 500"} {
		if !impl.ValidTrace(frames(s)) {
			t.Errorf("ValidTrace(%q) is false", s)
		}
	}
	for line := -5; line <= 1005; line++ {
		want := line >= 1 && line <= 999
		if impl.ValidTrace([]impl.Frame{{Func: "f", Line: line}}) != want {
			t.Errorf("ValidTrace of line %d is not %v", line, want)
		}
	}
	for n := range 30 {
		if impl.ValidTrace(run("f", 1, n)) != (n <= 12) || impl.ValidTrace(step("f", n)) != (n <= 12) {
			t.Errorf("ValidTrace of %d frames is not %v", n, n <= 12)
		}
		if impl.ValidTrace(run(strings.Repeat("f", n), 1, 1)) != (n >= 1 && n <= 6) {
			t.Errorf("ValidTrace of a name of %d letters", n)
		}
	}
	for reason, x := range invalidTraces() {
		if impl.ValidTrace(x) {
			t.Errorf("ValidTrace is true: %s", reason)
		}
	}
}

// checkNoTrace checks what each function returns if the frames are not a trace.
func checkNoTrace(t *testing.T, reason string, x []impl.Frame) {
	t.Helper()
	if impl.FoldTrace(x) != nil || impl.TraceText(x) != "" {
		t.Errorf("FoldTrace or TraceText has something: %s", reason)
	}
	if c, ok := impl.CallFrom(x, impl.Frame{Func: "f", Line: 1}); ok || c != nil {
		t.Errorf("CallFrom = %v, %v: %s", c, ok, reason)
	}
	for n := -14; n <= 14; n++ {
		if impl.TrimTrace(x, n) != nil {
			t.Errorf("TrimTrace(%d) has something: %s", n, reason)
		}
	}
	for _, name := range []string{"f", "g", "no", ""} {
		if impl.LinesOf(x, name) != nil {
			t.Errorf("LinesOf(%q) has something: %s", name, reason)
		}
		if in, ok := impl.InnerTrace(x, name); ok || in != nil {
			t.Errorf("InnerTrace(%q) = %v, %v: %s", name, in, ok, reason)
		}
	}
	for _, names := range [][]string{nil, {"f"}, {"f", "g"}, {"no"}, {""}} {
		if impl.HideFuncs(x, names) != nil {
			t.Errorf("HideFuncs(%q) has something: %s", names, reason)
		}
	}
	for _, other := range [][]impl.Frame{nil, frames("f 1"), frames("f 1 g 2 f 1"), x} {
		checkNoHead(t, reason, x, other)
		checkNoHead(t, reason, other, x)
	}
}

// checkNoHead checks what each function returns for frames of which the first or the second ones are not a trace.
func checkNoHead(t *testing.T, reason string, a, b []impl.Frame) {
	t.Helper()
	if n := impl.CommonHead(a, b); n != -1 {
		t.Errorf("CommonHead = %d: %s", n, reason)
	}
	if rest, n := impl.LessHead(a, b); rest != nil || n != -1 {
		t.Errorf("LessHead = %v, %d: %s", rest, n, reason)
	}
	for n := -1; n <= 4; n++ {
		if w, ok := impl.WithHead(a, n, b); ok || w != nil {
			t.Errorf("WithHead(%d) = %v, %v: %s", n, w, ok, reason)
		}
	}
}

func TestInvalidTraces(t *testing.T) {
	for reason, x := range invalidTraces() {
		checkNoTrace(t, reason, x)
	}
}

func TestP41TracesCanBeCut(t *testing.T) {
	for _, x := range someTraces() {
		if len(x) > 0 && (!impl.ValidTrace(x[1:]) || !impl.ValidTrace(x[:len(x)-1])) {
			t.Errorf("%v, cut, is not valid", x)
		}
		for from := range x {
			for to := from; to <= len(x); to++ {
				if !impl.ValidTrace(x[from:to]) {
					t.Errorf("%v is not valid", x[from:to])
				}
			}
		}
	}
	if !impl.ValidTrace(nil) || !impl.ValidTrace([]impl.Frame{}) {
		t.Error("nothing is not valid")
	}
}

func TestP42CallersComeFirst(t *testing.T) {
	for _, x := range someTraces() {
		for _, f := range frames("f 1 f 2 g 1 main 999 letter 10") {
			c, ok := impl.CallFrom(x, f)
			if ok != (len(x) < impl.MaxFrames) {
				t.Fatalf("CallFrom(%v, %v) = .., %v", x, f, ok)
			}
			if !ok {
				if c != nil {
					t.Errorf("CallFrom(%v, %v) = %v, false", x, f, c)
				}
				continue
			}
			if len(c) != len(x)+1 || c[0] != f || !same(c[1:], x) || !same(impl.TrimTrace(c, -len(x)), x) {
				t.Errorf("CallFrom(%v, %v) = %v", x, f, c)
			}
		}
	}
}

func TestP42CallersThatAreNoFrames(t *testing.T) {
	for reason, f := range badFrames() {
		for _, x := range [][]impl.Frame{nil, frames("f 1"), frames(way1), run("f", 1, 11), run("f", 1, 12)} {
			if c, ok := impl.CallFrom(x, f); ok || c != nil {
				t.Errorf("CallFrom(%v) = %v, %v: %s", x, c, ok, reason)
			}
		}
	}
}

func TestP43TrimmedPartsAreTheWhole(t *testing.T) {
	for _, x := range someTraces() {
		for n := range len(x) + 1 {
			first, last := impl.TrimTrace(x, n), impl.TrimTrace(x, n-len(x))
			if !same(first, x[:n]) {
				t.Errorf("TrimTrace(%v, %d) = %v", x, n, first)
			}
			// For the number 0 the first frames are meant.
			if n < len(x) && !same(last, x[n:]) || n == len(x) && len(last) != 0 {
				t.Errorf("TrimTrace(%v, %d) = %v", x, n-len(x), last)
			}
			if !same(slices.Concat(first, last), x) {
				t.Errorf("TrimTrace(%v) has %v and %v", x, first, last)
			}
		}
		for _, n := range append([]int{len(x), len(x) + 1, len(x) + 7, 12, 13, 100, math.MaxInt, math.MaxInt - 12, math.MinInt, math.MinInt + 1, math.MinInt + 12}, far...) {
			if n >= 0 && n < len(x) || n < 0 && n > -len(x) {
				continue
			}
			if got := impl.TrimTrace(x, n); !same(got, x) {
				t.Errorf("TrimTrace(%v, %d) = %v", x, n, got)
			}
		}
	}
}

// nameLists returns lists of functions that are hidden: none, one, several, ones twice, and ones that are not there.
func nameLists() [][]string {
	return [][]string{
		nil, {"f"}, {"g"}, {"f", "g"}, {"g", "f", "g"}, {"main", "letter", "ff"}, {"no"}, {"f", "no"}, {"no", "f"}, {"", "F", "f:1", "f 1"}, noFuncs, append(slices.Clone(noFuncs), "g"),
		{"f", "g", "ff", "main", "az", "letter", "zzzzzz"}, append(slices.Repeat([]string{"no"}, 10000), "f"), {strings.Repeat("f", 100000)},
	}
}

func TestP44HiddenFunctionsAreGone(t *testing.T) {
	for _, x := range someTraces() {
		for _, names := range nameLists() {
			got := impl.HideFuncs(x, names)
			var want []impl.Frame
			for _, f := range x {
				if !slices.Contains(names, f.Func) {
					want = append(want, f)
				}
			}
			if !same(got, want) || !same(impl.HideFuncs(got, names), got) {
				t.Errorf("HideFuncs(%v, %.100q) = %v", x, names, got)
			}
		}
	}
}

func TestP44HiddenFunctionsOfWays(t *testing.T) {
	for _, c := range []struct {
		names []string
		want  string
	}{
		{nil, way1},
		{[]string{"no"}, way1},
		{[]string{"main"}, "f 3 f 3 f 3 g 7 f 3 f 4"},
		{[]string{"f"}, "main 1 g 7"},
		{[]string{"g"}, "main 1 f 3 f 3 f 3 f 3 f 4"},
		{[]string{"no", "g", "main", "g"}, "f 3 f 3 f 3 f 3 f 4"},
		{[]string{"f", "g", "main"}, ""},
	} {
		if got := impl.HideFuncs(frames(way1), c.names); !same(got, frames(c.want)) {
			t.Errorf("HideFuncs(%q) = %v, want %q", c.names, got, c.want)
		}
	}
}

func TestP45FoldedTracesAreUnfolded(t *testing.T) {
	for _, x := range someTraces() {
		rows := impl.FoldTrace(x)
		if !same(rows, rowsOf(x)) {
			t.Errorf("FoldTrace(%v) = %v", x, rows)
		}
		for i := range rows {
			if i > 0 && rows[i].Frame == rows[i-1].Frame {
				t.Errorf("FoldTrace(%v) = %v has one frame in two rows", x, rows)
			}
		}
		if u, ok := impl.UnfoldTrace(rows); !ok || !same(u, x) {
			t.Errorf("UnfoldTrace(%v) = %v, %v", rows, u, ok)
		}
	}
	f, g := impl.Frame{Func: "f", Line: 3}, impl.Frame{Func: "g", Line: 7}
	want := []impl.Row{{Frame: impl.Frame{Func: "main", Line: 1}, Times: 1}, {Frame: f, Times: 3}, {Frame: g, Times: 1}, {Frame: f, Times: 1}, {Frame: impl.Frame{Func: "f", Line: 4}, Times: 1}}
	if rows := impl.FoldTrace(frames(way1)); !same(rows, want) {
		t.Errorf("FoldTrace(%q) = %v", way1, rows)
	}
}

// checkRows checks UnfoldTrace of rows, which are those of a trace or not.
func checkRows(t *testing.T, rows []impl.Row) {
	t.Helper()
	var want []impl.Frame
	fine := true
	for i, r := range rows {
		if r.Times < 1 || r.Times > impl.MaxFrames || i > 0 && r.Frame == rows[i-1].Frame {
			fine = false
			break
		}
		want = append(want, run(r.Frame.Func, r.Frame.Line, r.Times)...)
	}
	fine = fine && impl.ValidTrace(want)
	u, ok := impl.UnfoldTrace(rows)
	if ok != fine {
		t.Fatalf("UnfoldTrace(%.200v) = .., %v", rows, ok)
	}
	if !ok && u != nil || ok && (!same(u, want) || !same(impl.FoldTrace(u), rows)) {
		t.Errorf("UnfoldTrace(%.200v) = %v, %v", rows, u, ok)
	}
}

func TestP46UnfoldedRowsAreFolded(t *testing.T) {
	kinds := frames("f 1 f 2 g 1")
	times := []int{-1, 0, 1, 2, 5, 6, 7}
	for _, picks := range listsOf(len(kinds)*len(times), 3) {
		var rows []impl.Row
		for _, k := range picks {
			rows = append(rows, impl.Row{Frame: kinds[k%3], Times: times[k/3]})
		}
		checkRows(t, rows)
	}
	for a := -2; a <= 15; a++ {
		checkRows(t, []impl.Row{{Frame: kinds[0], Times: a}})
		for b := -2; b <= 15; b++ {
			checkRows(t, []impl.Row{{Frame: kinds[0], Times: a}, {Frame: kinds[1], Times: b}})
			checkRows(t, []impl.Row{{Frame: kinds[0], Times: a}, {Frame: kinds[0], Times: b}})
			checkRows(t, []impl.Row{{Frame: kinds[0], Times: a}, {Frame: kinds[2], Times: b}, {Frame: kinds[0], Times: 1}})
		}
	}
	if u, ok := impl.UnfoldTrace(nil); !ok || len(u) != 0 {
		t.Errorf("UnfoldTrace of nothing = %v, %v", u, ok)
	}
}

func TestP46RowsOfNoTrace(t *testing.T) {
	f, g := impl.Frame{Func: "f", Line: 1}, impl.Frame{Func: "g", Line: 1}
	for _, n := range append([]int{math.MaxInt - 1, math.MaxInt / 2, math.MinInt + 1, 1 << 32, -1 << 32, 1<<32 + 1, 1 << 20}, far...) {
		for _, rows := range [][]impl.Row{
			{{Frame: f, Times: n}}, {{Frame: f, Times: 1}, {Frame: g, Times: n}}, {{Frame: f, Times: n}, {Frame: g, Times: 1}}, {{Frame: f, Times: n}, {Frame: g, Times: n}},
			{{Frame: f, Times: n}, {Frame: g, Times: -n}}, {{Frame: f, Times: 2}, {Frame: g, Times: n}, {Frame: f, Times: -n}}, {{Frame: f, Times: n}, {Frame: g, Times: n}, {Frame: f, Times: n}, {Frame: g, Times: n}},
		} {
			checkRows(t, rows)
		}
	}
	var many []impl.Row
	for i := range 100000 {
		many = append(many, impl.Row{Frame: []impl.Frame{f, g}[i%2], Times: 1})
	}
	for _, n := range []int{0, 1, 11, 12, 13, 14, 24, 100000} {
		checkRows(t, many[:n])
	}
	for reason, bad := range badFrames() {
		for _, rows := range [][]impl.Row{
			{{Frame: bad, Times: 1}}, {{Frame: bad, Times: 3}}, {{Frame: bad, Times: 12}}, {{Frame: bad}}, {{Frame: f, Times: 1}, {Frame: bad, Times: 1}}, {{Frame: bad, Times: 1}, {Frame: f, Times: 1}},
			{{Frame: f, Times: 1}, {Frame: bad}}, {{Frame: f, Times: 11}, {Frame: bad, Times: 1}}, {{Frame: f, Times: 12}, {Frame: bad, Times: 0}}, {{Frame: bad, Times: 1}, {Frame: bad, Times: 1}},
		} {
			if u, ok := impl.UnfoldTrace(rows); ok || u != nil {
				t.Errorf("UnfoldTrace(%v) = %v, %v: %s", rows, u, ok, reason)
			}
		}
	}
}

func TestP47CommonHeadsAreInBoth(t *testing.T) {
	everyTwoTraces(func(a, b []impl.Frame) {
		n := impl.CommonHead(a, b)
		if n != headOf(a, b) || n != impl.CommonHead(b, a) {
			t.Fatalf("CommonHead(%v, %v) = %d, and %d the other way round", a, b, n, impl.CommonHead(b, a))
		}
		if !same(impl.TrimTrace(a, n), impl.TrimTrace(b, n)) || len(impl.TrimTrace(a, n)) != n {
			t.Errorf("the first %d frames of %v and %v are not the same", n, a, b)
		}
		if n < len(a) && n < len(b) && a[n] == b[n] {
			t.Errorf("CommonHead(%v, %v) = %d is too few", a, b, n)
		}
	})
}

// heads are traces with the number of the frames that they have in common.
var heads = []struct {
	a, b string
	n    int
}{
	{"", "", 0}, {"f 1", "", 0}, {"f 1", "f 1", 1}, {"f 1", "f 2", 0}, {"f 1", "g 1", 0}, {"f 1 f 1", "f 1", 1}, {"f 1 f 1 f 1", "f 1 f 1", 2},
	{way1, way1, 7}, {way1, "main 1 f 3", 2}, {way1, "main 1 f 3 f 3 g 7", 3}, {way1, "main 2 f 3 f 3", 0}, {way1, "f 3 f 3 f 3", 0}, {way1, "main 1 f 3 g 3", 2},
	// What comes again behind a frame that differs is not in common.
	{"f 1 g 1 h 1", "f 1 g 2 h 1", 1}, {"f 1 g 1 h 1", "f 2 g 1 h 1", 0}, {"f 1 g 1 h 1", "g 1 h 1", 0}, {"f 1 f 2 f 1", "f 1 f 1 f 1", 1},
}

func TestP47CommonHeadsOfWays(t *testing.T) {
	for _, c := range heads {
		a, b := frames(c.a), frames(c.b)
		if impl.CommonHead(a, b) != c.n || impl.CommonHead(b, a) != c.n {
			t.Errorf("CommonHead(%q, %q) = %d, and %d the other way round, want %d", c.a, c.b, impl.CommonHead(a, b), impl.CommonHead(b, a), c.n)
		}
		if rest, n := impl.LessHead(a, b); n != c.n || !same(rest, a[c.n:]) {
			t.Errorf("LessHead(%q, %q) = %v, %d", c.a, c.b, rest, n)
		}
	}
}

func TestP48HeadsArePutBack(t *testing.T) {
	everyTwoTraces(func(a, b []impl.Frame) {
		rest, n := impl.LessHead(a, b)
		if n != headOf(a, b) || !same(rest, a[n:]) {
			t.Fatalf("LessHead(%v, %v) = %v, %d", a, b, rest, n)
		}
		if w, ok := impl.WithHead(b, n, rest); !ok || !same(w, a) {
			t.Errorf("WithHead(%v, %d, %v) = %v, %v, want %v", b, n, rest, w, ok, a)
		}
	})
}

func TestP49HeadsComeFirst(t *testing.T) {
	everyTwoTraces(func(b, rest []impl.Frame) {
		for n := -1; n <= len(b)+1; n++ {
			w, ok := impl.WithHead(b, n, rest)
			if ok != (n >= 0 && n <= len(b) && n+len(rest) <= impl.MaxFrames) {
				t.Fatalf("WithHead(%v, %d, %v) = .., %v", b, n, rest, ok)
			}
			if !ok {
				if w != nil {
					t.Errorf("WithHead(%v, %d, %v) = %v, false", b, n, rest, w)
				}
				continue
			}
			if len(w) != n+len(rest) || !same(w[:n], b[:n]) || !same(w[n:], rest) || !impl.ValidTrace(w) {
				t.Errorf("WithHead(%v, %d, %v) = %v", b, n, rest, w)
			}
		}
	})
}

func TestP49HeadsThatAreNone(t *testing.T) {
	b, rest := frames(way1), frames("f 3 k 1")
	for _, n := range append([]int{-1, -2, -7, 8, 9, 12, 13, math.MaxInt, math.MinInt}, far...) {
		for _, rest := range [][]impl.Frame{nil, rest, b} {
			if w, ok := impl.WithHead(b, n, rest); ok || w != nil {
				t.Errorf("WithHead(%d, %v) = %v, %v", n, rest, w, ok)
			}
		}
	}
	for reason, bad := range badFrames() {
		for n := range 3 {
			// The frame is behind the first ones, but those are then not of a trace.
			if w, ok := impl.WithHead(append(frames("f 1 f 2"), bad), n, rest); ok || w != nil {
				t.Errorf("WithHead(%d) = %v, %v: %s", n, w, ok, reason)
			}
			if w, ok := impl.WithHead(b, n, append(frames("f 1 f 2"), bad)); ok || w != nil {
				t.Errorf("WithHead(%d) = %v, %v: %s", n, w, ok, reason)
			}
		}
	}
	if w, ok := impl.WithHead(run("f", 1, 13), 1, rest); ok || w != nil {
		t.Errorf("WithHead of too many frames = %v, %v", w, ok)
	}
	if w, ok := impl.WithHead(nil, 0, nil); !ok || len(w) != 0 {
		t.Errorf("WithHead of nothing = %v, %v", w, ok)
	}
	if w, ok := impl.WithHead(b, 0, nil); !ok || len(w) != 0 {
		t.Errorf("WithHead of no frames = %v, %v", w, ok)
	}
}

func TestP50LinesAreOfFunctions(t *testing.T) {
	for _, x := range someTraces() {
		for _, name := range append([]string{"f", "g", "ff", "main", "letter", "zzzzzz"}, noFuncs...) {
			var want []int
			for _, f := range x {
				if f.Func == name {
					want = append(want, f.Line)
				}
			}
			got := impl.LinesOf(x, name)
			if !same(got, want) || len(got) != len(x)-len(impl.HideFuncs(x, []string{name})) {
				t.Errorf("LinesOf(%v, %q) = %v, want %v", x, name, got, want)
			}
		}
	}
	for name, want := range map[string][]int{"main": {1}, "f": {3, 3, 3, 3, 4}, "g": {7}, "no": nil, "": nil, "m": nil} {
		if got := impl.LinesOf(frames(way1), name); !same(got, want) {
			t.Errorf("LinesOf(%q) = %v, want %v", name, got, want)
		}
	}
	if got := impl.LinesOf(frames("f 9 f 2 g 5 f 9 f 1"), "f"); !same(got, []int{9, 2, 9, 1}) {
		t.Errorf("LinesOf = %v is not in order", got)
	}
}

func TestP51TracesAreReadBack(t *testing.T) {
	for _, x := range someTraces() {
		text := impl.TraceText(x)
		if text != textOf(x) || !isTraceText(text) {
			t.Errorf("TraceText(%v) = %q, want %q", x, text, textOf(x))
		}
		if y, ok := impl.ParseTrace(text); !ok || !same(y, x) {
			t.Errorf("ParseTrace(%q) = %v, %v", text, y, ok)
		}
	}
	for line := 1; line <= impl.MaxLine; line++ {
		for _, n := range []int{1, 2, 9, 10, 12} {
			x := run("abcxyz", line, n)
			text := impl.TraceText(x)
			if y, ok := impl.ParseTrace(text); !ok || !same(y, x) || text != textOf(x) {
				t.Errorf("ParseTrace(%q) = %v, %v, want %v", text, y, ok, x)
			}
		}
	}
}

func TestP51TextsOfWays(t *testing.T) {
	for _, c := range []struct{ list, want string }{
		{"", ""},
		{"f 1", "f:1"},
		{"f 1 f 1", "f:1*2"},
		{"f 1 f 2", "f:1 f:2"},
		{"f 1 g 1 f 1", "f:1 g:1 f:1"},
		{way1, "main:1 f:3*3 g:7 f:3 f:4"},
		{strings.Repeat("letter 999 ", 12), "letter:999*12"},
		{strings.Repeat("f 1 ", 10) + "f 10 f 10", "f:1*10 f:10*2"},
	} {
		if got := impl.TraceText(frames(c.list)); got != c.want {
			t.Errorf("TraceText(%q) = %q, want %q", c.list, got, c.want)
		}
		if x, ok := impl.ParseTrace(c.want); !ok || !same(x, frames(c.list)) {
			t.Errorf("ParseTrace(%q) = %v, %v", c.want, x, ok)
		}
	}
}

// checkTraceText checks ParseTrace of a text that is one or not.
func checkTraceText(t *testing.T, s string) {
	t.Helper()
	x, ok := impl.ParseTrace(s)
	if ok != isTraceText(s) || !ok && x != nil || ok && (!impl.ValidTrace(x) || impl.TraceText(x) != s || textOf(x) != s) {
		t.Errorf("ParseTrace(%q) = %v, %v", s, x, ok)
	}
}

func TestP52TextsOfTracesAreWrittenBack(t *testing.T) {
	const letters = "a:12* "
	for _, list := range listsOf(len(letters), 7) {
		s := ""
		for _, i := range list {
			s += letters[i : i+1]
		}
		checkTraceText(t, s)
	}
	for _, s := range []string{"f:10", "letter:999*12", "main:1 f:3*3 g:7 f:3", "a:1 b:2 c:3 d:4 e:5 f:6 g:7 h:8 i:9 j:10 k:11 l:12", "f:1*6 f:2*6"} {
		checkTraceText(t, s)
		for i := range len(s) + 1 {
			for c := range 256 {
				checkTraceText(t, s[:i]+string([]byte{byte(c)})+s[i:])
				checkTraceText(t, s[:i]+string([]byte{byte(c)})+s[min(i+1, len(s)):])
			}
			checkTraceText(t, s[:i]+s[min(i+1, len(s)):])
			checkTraceText(t, s[:i]+s[min(i+2, len(s)):])
			checkTraceText(t, s[i:])
			checkTraceText(t, s[:i])
		}
	}
	for line := range 1100 {
		for _, zeros := range []string{"", "0", "00"} {
			checkTraceText(t, "f:"+zeros+strconv.Itoa(line))
			checkTraceText(t, "f:1*"+zeros+strconv.Itoa(line))
			checkTraceText(t, "f:1*6 g:1*"+zeros+strconv.Itoa(line))
		}
	}
}

func TestP52TextsWithoutTraces(t *testing.T) {
	for _, s := range []string{
		" ", "  ", "f", "f:", ":1", ":", "1", "*", "f*2", "f:*2", ":1*2", "*2", "F:1", "f:1 ", " f:1", "f:1  g:1", "f:1\n", "f:1\ng:1", "f:1\tg:1", "f:1,g:1", "f :1", "f: 1", "f:1 *2", "f:1* 2",
		"f:0", "f:00", "f:01", "f:-1", "f:+1", "f:1000", "f:1.0", "f:1e1", "f:0x1", "f:1_0", "f:x", "f:1:1", "f::1", "f:99999999999999999999", "f:18446744073709551617", "f:9223372036854775807", "f:-9223372036854775808",
		"f:1*", "f:1*0", "f:1*1", "f:1*-1", "f:1*+2", "f:1*02", "f:1*13", "f:1*2*2", "f:1**2", "f:1*x", "f:1*1_0", "f:1*99999999999999999999", "f:1*18446744073709551618", "f:1*9223372036854775807", "f:1*2:1",
		"f:1 f:1", "f:1*2 f:1", "f:1 f:1*2", "f:1*2 f:1*2", "g:2 f:1 f:1", "f:1*12 g:1", "f:1*7 g:1*6", "g:1 f:1*12", "sevenxx:1", "f1:1", "\u00e9:1", "f:\u0661", "f\x00:1", "f:1\x00", "\xff:1",
		"a:1 b:1 a:1 b:1 a:1 b:1 a:1 b:1 a:1 b:1 a:1 b:1 a:1", strings.Repeat("a:1 b:1 ", 50000), strings.Repeat("a:1 b:1 ", 6), strings.Repeat(" ", 100000), strings.Repeat("f", 100000) + ":1",
		"f:" + strings.Repeat("9", 100000), "f:1*" + strings.Repeat("9", 100000), strings.Repeat(":", 100000), strings.Repeat("*", 100000), "f:" + strings.Repeat("0", 100000) + "1",
	} {
		if x, ok := impl.ParseTrace(s); ok || x != nil {
			t.Errorf("ParseTrace(%.60q) = %v, %v", s, x, ok)
		}
	}
	if x, ok := impl.ParseTrace(""); !ok || len(x) != 0 {
		t.Errorf("ParseTrace of nothing = %v, %v", x, ok)
	}
}

func TestP53InnerTracesBeginWithTheFunction(t *testing.T) {
	for _, x := range someTraces() {
		for _, name := range append([]string{"f", "g", "ff", "main", "letter", "zzzzzz"}, noFuncs...) {
			in, ok := impl.InnerTrace(x, name)
			lines := impl.LinesOf(x, name)
			if ok != (len(lines) > 0) {
				t.Fatalf("InnerTrace(%v, %q) = .., %v", x, name, ok)
			}
			if !ok {
				if in != nil {
					t.Errorf("InnerTrace(%v, %q) = %v, false", x, name, in)
				}
				continue
			}
			if len(in) < 1 || len(in) > len(x) || !same(in, x[len(x)-len(in):]) || !same(in, impl.TrimTrace(x, -len(in))) {
				t.Fatalf("InnerTrace(%v, %q) = %v", x, name, in)
			}
			if in[0].Func != name || !same(impl.LinesOf(in, name), lines[len(lines)-1:]) {
				t.Errorf("InnerTrace(%v, %q) = %v", x, name, in)
			}
		}
	}
	for name, want := range map[string]string{"main": way1, "f": "f 4", "g": "g 7 f 3 f 4", "no": "", "": "", "mai": ""} {
		if in, ok := impl.InnerTrace(frames(way1), name); ok != (want != "") || !same(in, frames(want)) {
			t.Errorf("InnerTrace(%q) = %v, %v, want %q", name, in, ok, want)
		}
	}
}

func TestP105TextsOfTracesHaveRows(t *testing.T) {
	for _, x := range someTraces() {
		text := impl.TraceText(x)
		rows := impl.FoldTrace(x)
		if strings.Count(text, ":") != len(rows) || len(rows) != len(rowsOf(x)) {
			t.Errorf("TraceText(%v) = %q, and FoldTrace is %v", x, text, rows)
		}
		if spaces := strings.Count(text, " "); spaces != max(len(rows)-1, 0) {
			t.Errorf("TraceText(%v) = %q has %d spaces", x, text, spaces)
		}
	}
}

func TestP106LessThanItselfIsNothing(t *testing.T) {
	for _, x := range someTraces() {
		if rest, n := impl.LessHead(x, slices.Clone(x)); len(rest) != 0 || n != len(x) {
			t.Errorf("LessHead of %v and itself = %v, %d", x, rest, n)
		}
		if rest, n := impl.LessHead(x, nil); !same(rest, x) || n != 0 {
			t.Errorf("LessHead of %v and nothing = %v, %d", x, rest, n)
		}
		if rest, n := impl.LessHead(nil, x); len(rest) != 0 || n != 0 {
			t.Errorf("LessHead of nothing and %v = %v, %d", x, rest, n)
		}
		other := append(frames("other 1"), x[:min(len(x), impl.MaxFrames-1)]...)
		if rest, n := impl.LessHead(x, other); !same(rest, x) || n != 0 {
			t.Errorf("LessHead of %v and %v = %v, %d", x, other, rest, n)
		}
	}
	everyTwoTraces(func(a, b []impl.Frame) {
		if impl.CommonHead(a, b) > 0 {
			return
		}
		if rest, n := impl.LessHead(a, b); !same(rest, a) || n != 0 {
			t.Errorf("LessHead(%v, %v) = %v, %d, but they have nothing in common", a, b, rest, n)
		}
	})
}

// TestTracesStay checks that no function of traces changes its arguments, and that no result shares memory with them or with another one.
func TestTracesStay(t *testing.T) {
	spare := frames("spare 7 spare 8 spare 9 spare 10")
	for _, s := range []string{"f 1", "f 1 f 1", way1, "f 1 f 2 f 3 f 4 f 5 f 6"} {
		n := len(frames(s))
		room := append(frames(s), spare...)
		other := append(frames(s), spare...)
		rows := append(rowsOf(frames(s)), impl.Row{Frame: spare[0], Times: 3})
		names := []string{"f", "no", "spare"}
		unchanged := func() bool {
			return same(room, append(frames(s), spare...)) && same(other, append(frames(s), spare...)) &&
				same(rows, append(rowsOf(frames(s)), impl.Row{Frame: spare[0], Times: 3})) && same(names, []string{"f", "no", "spare"})
		}
		x, y := room[:n], other[:n-1]
		results := resultsOf(x, y, rows[:len(rows)-1], names[:2])
		lines, folded := impl.LinesOf(x, "f"), impl.FoldTrace(x)
		impl.TraceText(x)
		impl.CommonHead(x, y)
		if !unchanged() {
			t.Fatalf("the arguments are now %v, %v, %v, %v", room, other, rows, names)
		}
		var copies [][]impl.Frame
		for _, r := range results {
			copies = append(copies, slices.Clone(r))
		}
		for i, r := range results {
			more := r[:cap(r)]
			for j := range more {
				more[j] = impl.Frame{Func: "changed", Line: -44}
			}
			if !unchanged() || !slices.EqualFunc(results[i+1:], copies[i+1:], same[impl.Frame]) {
				t.Fatalf("result %d of %q shares memory", i, s)
			}
		}
		clear(lines[:cap(lines)])
		clear(folded[:cap(folded)])
		if !unchanged() || !same(impl.LinesOf(x, "f"), lineNumbers(frames(s))) {
			t.Errorf("LinesOf or FoldTrace of %q shares memory", s)
		}
	}
}

// resultsOf returns frames that functions of traces return for some arguments.
func resultsOf(x, y []impl.Frame, rows []impl.Row, names []string) [][]impl.Frame {
	called, _ := impl.CallFrom(x, x[0])
	unfolded, _ := impl.UnfoldTrace(rows)
	less, _ := impl.LessHead(x, y)
	nothing, _ := impl.LessHead(y, x)
	whole, _ := impl.LessHead(x, nil)
	inner, _ := impl.InnerTrace(x, "f")
	results := [][]impl.Frame{called, unfolded, less, nothing, whole, inner, impl.HideFuncs(x, nil), impl.HideFuncs(x, names), impl.HideFuncs(x, names[1:])}
	for n := -len(x) - 1; n <= len(x)+1; n++ {
		results = append(results, impl.TrimTrace(x, n))
	}
	for n := range len(y) + 1 {
		with, _ := impl.WithHead(y, n, x[:n%2])
		without, _ := impl.WithHead(y, n, nil)
		results = append(results, with, without)
	}
	return results
}

// lineNumbers returns the lines of the frames of f.
func lineNumbers(list []impl.Frame) []int {
	var out []int
	for _, f := range list {
		if f.Func == "f" {
			out = append(out, f.Line)
		}
	}
	return out
}
