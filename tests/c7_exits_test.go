package tests

import (
	"slices"
	"testing"

	"loop.example/faultcleanup/impl"
)

func TestLimitsOfExits(t *testing.T) {
	if impl.MaxExits != 8 {
		t.Errorf("MaxExits = %d", impl.MaxExits)
	}
	for i, kind := range []int{impl.XtCall, impl.XtTell, impl.XtCatch, impl.XtRaise} {
		if kind != i {
			t.Errorf("the kind of %s is %d", exitWords[i], kind)
		}
	}
}

func TestValidExits(t *testing.T) {
	x := mustParse(t, house)
	for _, list := range someExits() {
		if !impl.ValidExits(x, list) {
			t.Errorf("ValidExits(%v) is false", list)
		}
	}
	for _, list := range invalidExits() {
		if impl.ValidExits(x, list) {
			t.Errorf("ValidExits is true for %d exits, the first ones %v", len(list), list[:min(len(list), 4)])
		}
	}
	for reason, y := range invalidTrees() {
		for _, s := range []string{"", "call 1", "catch", "raise"} {
			if impl.ValidExits(y, exits(s)) {
				t.Errorf("ValidExits(%q) is true: %s", s, reason)
			}
		}
	}
}

func TestValidExitsOfNumbers(t *testing.T) {
	for _, x := range []impl.Tree{mustParse(t, house), mustParse(t, "any\n"), treeOf([]int{-1, 0, 0, 0, 0, 0, 0, 0})} {
		for kind := -1; kind <= 5; kind++ {
			for _, b := range append([]int{-1, 0, 1, 2, 98, 99}, far...) {
				numbers := slices.Clone(far)
				for a := -2; a <= 102; a++ {
					numbers = append(numbers, a)
				}
				for _, a := range numbers {
					one := impl.Exit{Kind: kind, A: a, B: b}
					if got, want := impl.ValidExits(x, []impl.Exit{one}), fineExit(len(x.Classes), one); got != want {
						t.Errorf("ValidExits(%v) = %v with %d classes", one, got, len(x.Classes))
					}
				}
			}
		}
	}
}

// TestCloseExits holds CloseExits against a plain walk over the exits.
func TestCloseExits(t *testing.T) {
	x := mustParse(t, house)
	for _, list := range append(someExits(), smallExits(4)...) {
		for _, start := range startsOf(x) {
			if got, want := impl.CloseExits(x, list, start), closeOf(x, list, start); !sameResult(got, want) {
				t.Fatalf("CloseExits(%v, %v) = %v, want %v", list, start, got, want)
			}
		}
	}
	m := mixer(23)
	for _, y := range someTrees() {
		for n := range impl.MaxExits + 1 {
			list := mixedExits(&m, n, len(y.Classes))
			for _, start := range startsOf(y) {
				if got, want := impl.CloseExits(y, list, start), closeOf(y, list, start); !sameResult(got, want) {
					t.Fatalf("CloseExits(%v, %v, %v) = %v, want %v", y, list, start, got, want)
				}
			}
		}
	}
}

// closings are exits with a start, what they tell, and the text of the fault that comes out.
var closings = []struct {
	list  string
	start impl.Start
	log   []int
	fault string
}{
	// Exits of nothing.
	{"", impl.Start{}, nil, ""},
	{"", begun(3, 7), nil, "net:7"},
	{"", begun(0, 0), nil, "any:0"},
	{"", begun(5, 99), nil, "wifi:99"},
	// The last one is the first.
	{"call 1; call 2; call 3", impl.Start{}, []int{3, 2, 1}, ""},
	{"call 1; tell 2; call 3", impl.Start{}, []int{3, 1}, ""},
	{"call 1; tell 2; call 3", begun(3, 7), []int{3, 2, 1}, "net:7"},
	{"call 5; call 5; tell 5", begun(0, 0), []int{5, 5, 5}, "any:0"},
	{"call 0; tell 99", begun(1, 1), []int{99, 0}, "io:1"},
	// A fault is taken away by its class, and those above it.
	{"tell 1; catch 3; tell 2", begun(3, 7), []int{2}, ""},
	{"tell 1; catch 1; tell 2", begun(3, 7), []int{2}, ""},
	{"tell 1; catch 0; tell 2", begun(3, 7), []int{2}, ""},
	{"tell 1; catch 5; tell 2", begun(3, 7), []int{2, 1}, "net:7"},
	{"tell 1; catch 4; tell 2", begun(3, 7), []int{2, 1}, "net:7"},
	{"tell 1; catch 2; tell 2", begun(3, 7), []int{2, 1}, "net:7"},
	{"tell 1; catch 0; tell 2", impl.Start{}, nil, ""},
	// A new fault takes the place of the one that there is.
	{"raise 2 9", impl.Start{}, nil, "key:9"},
	{"raise 2 9", begun(3, 7), nil, "net:7 ~ key:9"},
	{"raise 3 7", begun(3, 7), nil, "net:7 ~ net:7"},
	{"raise; raise", begun(0, 0), nil, "any:0 ~ any:0 ~ any:0"},
	{"raise 1 1; raise 2 2; raise 4 4", impl.Start{}, nil, "disk:4 ~ key:2 ~ io:1"},
	{"tell 1; raise 2 2; tell 2; raise 3 3; tell 3", impl.Start{}, []int{2, 1}, "net:3 ~ key:2"},
	// What was taken away is handled no more, and the one that came in its place is caught by its own class.
	{"raise 2 9; catch 3", begun(3, 7), nil, "key:9"},
	{"raise 2 9; catch 4", begun(3, 7), nil, "net:7 ~ key:9"},
	{"catch 3; raise 2 9", begun(3, 7), nil, "net:7 ~ key:9"},
	{"catch 2; raise 2 9", begun(3, 7), nil, ""},
	{"tell 1; catch 2; tell 2; raise 2 9; tell 3; catch 1; tell 4", begun(5, 7), []int{4, 2}, ""},
	{"raise 4 4; catch 2; raise 2 9", begun(3, 7), nil, "disk:4"},
	{"raise 3 7; catch 3", begun(3, 7), nil, "net:7"},
	{"raise 1 1; raise 4 4; catch 0; raise 2 9; raise 5 5", begun(3, 7), nil, "disk:4 ~ io:1"},
	// The most exits.
	{"raise 0 1; raise 1 2; raise 2 3; raise 3 4; raise 4 5; raise 5 6; raise 0 7; raise 1 8", begun(2, 9), nil, "key:9 ~ io:8 ~ any:7 ~ wifi:6 ~ disk:5 ~ net:4 ~ key:3 ~ io:2 ~ any:1"},
	{"catch 1; call 1; tell 2; raise 3 4; catch 2; call 5; tell 6; call 7", begun(2, 3), []int{7, 6, 5, 2, 1}, ""},
}

func TestCloseExitsOfWays(t *testing.T) {
	x := mustParse(t, house)
	for _, c := range closings {
		r := impl.CloseExits(x, exits(c.list), c.start)
		end, text := impl.EdNext, ""
		if c.fault != "" {
			end, text = impl.EdRaise, impl.ChainText(x, r.Heap, r.Value)
		}
		if !same(r.Log, c.log) || r.End != end || text != c.fault {
			t.Errorf("CloseExits(%q, %v) = %v, and its fault is %q", c.list, c.start, r, text)
		}
		if end == impl.EdNext && (r.Value != 0 || len(r.Heap.Faults) != 0) {
			t.Errorf("CloseExits(%q, %v) = %v has a fault", c.list, c.start, r)
		}
		if end == impl.EdRaise && (!impl.ValidHeap(x, r.Heap) || len(impl.ReachOf(x, r.Heap, r.Value)) != len(r.Heap.Faults)) {
			t.Errorf("CloseExits(%q, %v) = %v has other faults", c.list, c.start, r)
		}
	}
}

func TestP81ExitsCanBeCut(t *testing.T) {
	x := mustParse(t, house)
	for _, list := range someExits() {
		for i := range len(list) + 1 {
			if !impl.ValidExits(x, list[:i]) || !impl.ValidExits(x, list[i:]) {
				t.Errorf("%v cut at %d is not valid", list, i)
			}
		}
	}
}

func TestP82ExitsArePrograms(t *testing.T) {
	x := mustParse(t, house)
	possible := 0
	for _, list := range someExits() {
		for _, start := range startsOf(x) {
			p, ok := impl.ProgramOf(x, list, start)
			if !ok {
				continue
			}
			possible++
			if a, b := impl.CloseExits(x, list, start), impl.RunProgram(x, p); !sameResult(a, b) {
				t.Fatalf("CloseExits(%v, %v) = %v, but the program %v does %v", list, start, a, p, b)
			}
		}
	}
	if possible < 1000 {
		t.Errorf("only %d of the exits are programs", possible)
	}
}

// TestP90ProgramsOfExitsDoWhatExitsDo checks the lines of ProgramOf, too. Exits are too deep for a program just if they are more than MaxNest.
func TestP90ProgramsOfExitsDoWhatExitsDo(t *testing.T) {
	x := mustParse(t, house)
	for _, list := range someExits() {
		for _, start := range startsOf(x) {
			p, ok := impl.ProgramOf(x, list, start)
			if ok != (len(list) <= impl.MaxNest) || !ok && p != nil {
				t.Fatalf("ProgramOf(%v, %v) = %v, %v", list, start, p, ok)
			}
			if !ok {
				continue
			}
			if want := formOf(list, start); !same(p, want) {
				t.Fatalf("ProgramOf(%v, %v) = %v, want %v", list, start, p, want)
			}
			deepest := 0
			for _, n := range p {
				deepest = max(deepest, n.Depth)
			}
			if deepest != len(list) || !sameResult(impl.RunProgram(x, p), closeOf(x, list, start)) {
				t.Fatalf("ProgramOf(%v, %v) = %v, which does %v", list, start, p, impl.RunProgram(x, p))
			}
		}
	}
}

func TestP90ProgramsOfWays(t *testing.T) {
	x := mustParse(t, house)
	for _, c := range []struct {
		list  string
		start impl.Start
		want  string
	}{
		{"", impl.Start{}, "pass"},
		{"", begun(3, 7), "raise 3 7"},
		{"call 4", impl.Start{}, "try; .pass; finally; .log 4"},
		{"catch 4", begun(3, 7), "try; .raise 3 7; except 4; .pass"},
		{"raise 4 5", begun(3, 7), "try; .raise 3 7; finally; .raise 4 5"},
		{"tell 4", begun(3, 7), "try; .raise 3 7; except 0; .log 4; .again"},
		{"call 1; tell 2", impl.Start{}, "try; .try; ..pass; .except 0; ..log 2; ..again; finally; .log 1"},
		{"raise 1 2; catch 3", begun(0, 0), "try; .try; ..raise 0 0; .except 3; ..pass; finally; .raise 1 2"},
		{"tell 1; tell 2; tell 3; tell 4; tell 5", impl.Start{}, "try; .try; ..try; ...try; ....try; .....pass; ....except; .....log 5; .....again; ...except; ....log 4; ....again; ..except; ...log 3; ...again; .except; ..log 2; ..again; except; .log 1; .again"},
	} {
		if p, ok := impl.ProgramOf(x, exits(c.list), c.start); !ok || !same(p, program(c.want)) {
			t.Errorf("ProgramOf(%q, %v) = %v, %v, want %q", c.list, c.start, p, ok, c.want)
		}
	}
	if p, ok := impl.ProgramOf(x, exits("call 1; call 2; call 3; call 4; call 5; call 6"), impl.Start{}); ok || p != nil {
		t.Errorf("ProgramOf of 6 exits = %v, %v", p, ok)
	}
}

func TestP83CallsAreToldWhateverComes(t *testing.T) {
	x := mustParse(t, house)
	for _, list := range someExits() {
		list = numberedExits(list)
		for _, start := range startsOf(x) {
			log := impl.CloseExits(x, list, start).Log
			rest := log
			for i := len(list) - 1; i >= 0; i-- {
				// Numbers tell where an exit is, so that none is told in another place.
				isNext := len(rest) > 0 && rest[0] == 10+i
				if list[i].Kind == impl.XtCall && !isNext || list[i].Kind >= impl.XtCatch && isNext {
					t.Fatalf("CloseExits(%v, %v) tells %v", list, start, log)
				}
				if isNext {
					rest = rest[1:]
				}
			}
			if len(rest) > 0 {
				t.Fatalf("CloseExits(%v, %v) tells %v", list, start, log)
			}
		}
	}
}

func TestP84TheLastOneIsTheFirst(t *testing.T) {
	x := mustParse(t, house)
	for _, list := range someExits() {
		for _, one := range exits("call 77; tell 78; catch 3; raise 4 79; call 0") {
			more, ok := impl.PushExit(x, list, one)
			if ok != (len(list) < impl.MaxExits) || !ok && more != nil || ok && !same(more, slices.Concat(list, []impl.Exit{one})) {
				t.Fatalf("PushExit(%v, %v) = %v, %v", list, one, more, ok)
			}
			if !ok || one.Kind != impl.XtCall {
				continue
			}
			for _, start := range startsOf(x) {
				want := impl.CloseExits(x, list, start)
				want.Log = slices.Concat([]int{one.A}, want.Log)
				if got := impl.CloseExits(x, more, start); !sameResult(got, want) {
					t.Fatalf("CloseExits(%v, %v) = %v, want %v", more, start, got, want)
				}
			}
		}
	}
}

func TestP85JoinedExitsGoOn(t *testing.T) {
	x := mustParse(t, house)
	few := fewExits()
	for _, a := range few {
		for _, b := range few {
			both, ok := impl.JoinExits(x, a, b)
			if ok != (len(a)+len(b) <= impl.MaxExits) || !ok && both != nil || ok && !same(both, slices.Concat(a, b)) {
				t.Fatalf("JoinExits(%v, %v) = %v, %v", a, b, both, ok)
			}
			if !ok {
				continue
			}
			for _, start := range startsOf(x) {
				second := impl.CloseExits(x, b, start)
				between, _ := impl.StartOf(x, second)
				first := impl.CloseExits(x, a, between)
				got := impl.CloseExits(x, both, start)
				wantEnd, _ := impl.StartOf(x, first)
				gotEnd, _ := impl.StartOf(x, got)
				if !same(got.Log, slices.Concat(second.Log, first.Log)) || got.End != first.End || gotEnd != wantEnd {
					t.Fatalf("CloseExits(%v, %v) = %v, but the second ones do %v, and then the first ones %v", both, start, got, second, first)
				}
			}
		}
	}
}

func TestP86PoppedExitsArePushedAgain(t *testing.T) {
	x := mustParse(t, house)
	for _, list := range someExits() {
		rest, last, ok := impl.PopExit(x, list)
		if len(list) == 0 {
			if ok || rest != nil || last != (impl.Exit{}) {
				t.Errorf("PopExit of none = %v, %v, %v", rest, last, ok)
			}
			continue
		}
		n := len(list) - 1
		if !ok || last != list[n] || !same(rest, list[:n]) {
			t.Fatalf("PopExit(%v) = %v, %v, %v", list, rest, last, ok)
		}
		if again, ok := impl.PushExit(x, rest, last); !ok || !same(again, list) {
			t.Errorf("PushExit(%v, %v) = %v, %v", rest, last, again, ok)
		}
	}
}

// checkStart checks StartOf a result that a program or exits have, and what comes out of no exits then.
func checkStart(t *testing.T, x impl.Tree, r impl.Result) {
	t.Helper()
	want, isFine := impl.Start{}, r.End != impl.EdReturn
	if r.End == impl.EdRaise {
		f := r.Heap.Faults[r.Value]
		want = begun(f.Class, f.Code)
	}
	start, ok := impl.StartOf(x, r)
	if ok != isFine || start != want {
		t.Fatalf("StartOf(%v) = %v, %v", r, start, ok)
	}
	out := impl.CloseExits(x, nil, start)
	if !want.Has {
		if !sameResult(out, impl.Result{}) {
			t.Fatalf("CloseExits of no exits with %v = %v", start, out)
		}
		return
	}
	if len(out.Log) > 0 || out.End != impl.EdRaise || out.Value != 0 || !same(out.Heap.Faults, []impl.Fault{plain(want.Class, want.Code)}) {
		t.Fatalf("CloseExits of no exits with %v = %v", start, out)
	}
}

func TestP87StartsAreWhatCameOut(t *testing.T) {
	x := mustParse(t, house)
	for _, p := range somePrograms() {
		checkStart(t, x, impl.RunProgram(x, p))
	}
	for _, list := range someExits() {
		for _, start := range startsOf(x) {
			checkStart(t, x, impl.CloseExits(x, list, start))
		}
	}
}

func TestStartOfOtherResults(t *testing.T) {
	x := mustParse(t, house)
	two := impl.Heap{Faults: []impl.Fault{plain(3, 7), plain(2, 9)}}
	two.Faults[1].Context = 0
	for i, want := range []impl.Start{begun(3, 7), begun(2, 9)} {
		if start, ok := impl.StartOf(x, impl.Result{Log: []int{1}, End: impl.EdRaise, Value: i, Heap: two}); !ok || start != want {
			t.Errorf("StartOf the fault %d = %v, %v", i, start, ok)
		}
	}
	if start, ok := impl.StartOf(x, impl.Result{Log: []int{1, 2}}); !ok || start != (impl.Start{}) {
		t.Errorf("StartOf no fault = %v, %v", start, ok)
	}
	other := []impl.Result{{End: impl.EdRaise}, {End: impl.EdReturn}, {End: impl.EdReturn, Value: 1, Heap: two}}
	for _, end := range append([]int{-1, impl.EdBreak, impl.EdContinue, 5}, far...) {
		other = append(other, impl.Result{End: end}, impl.Result{End: end, Heap: two})
	}
	for _, n := range append([]int{-1, 2, 3}, far...) {
		other = append(other, impl.Result{End: impl.EdRaise, Value: n, Heap: two})
	}
	for _, h := range invalidHeaps() {
		for i := range 3 {
			other = append(other, impl.Result{End: impl.EdRaise, Value: i, Heap: h})
		}
	}
	for _, r := range other {
		if start, ok := impl.StartOf(x, r); ok || start != (impl.Start{}) {
			t.Errorf("StartOf(%v) = %v, %v", r, start, ok)
		}
	}
	for reason, y := range invalidTrees() {
		for _, r := range []impl.Result{{}, {End: impl.EdRaise, Heap: impl.Heap{Faults: []impl.Fault{plain(0, 1)}}}, {End: impl.EdReturn}} {
			if start, ok := impl.StartOf(y, r); ok || start != (impl.Start{}) {
				t.Errorf("StartOf(%v) = %v, %v: %s", r, start, ok, reason)
			}
		}
	}
}

// passing returns the classes that exits do not stop: where nothing is raised, those that nothing catches.
func passing(x impl.Tree, list []impl.Exit) []int {
	var caught, out []int
	for _, one := range list {
		switch one.Kind {
		case impl.XtRaise:
			return nil
		case impl.XtCatch:
			caught = append(caught, one.A)
		}
	}
	for a := range x.Classes {
		if !isCaught(x, caught, a) {
			out = append(out, a)
		}
	}
	return out
}

// checkEscapes checks EscapesOf exits, and that what escapes is as it was.
func checkEscapes(t *testing.T, x impl.Tree, list []impl.Exit) {
	t.Helper()
	escapes := impl.EscapesOf(x, list)
	if want := passing(x, list); !same(escapes, want) {
		t.Fatalf("EscapesOf(%v, %v) = %v, want %v", x, list, escapes, want)
	}
	for _, a := range escapes {
		for _, code := range []int{0, 1, 99} {
			r := impl.CloseExits(x, list, begun(a, code))
			if r.End != impl.EdRaise || r.Value != 0 || !same(r.Heap.Faults, []impl.Fault{plain(a, code)}) {
				t.Fatalf("CloseExits(%v, %v) with %d:%d = %v, but EscapesOf is %v", x, list, a, code, r, escapes)
			}
		}
		for _, b := range impl.AboveOf(x, a) {
			if !slices.Contains(escapes, b) {
				t.Fatalf("EscapesOf(%v, %v) = %v does not have %d", x, list, escapes, b)
			}
		}
	}
}

func TestP88WhatEscapesIsAsItWas(t *testing.T) {
	x := mustParse(t, house)
	for _, list := range someExits() {
		checkEscapes(t, x, list)
	}
	m := mixer(24)
	for _, y := range someTrees() {
		for i := range 4 * (impl.MaxExits + 1) {
			list := mixedExits(&m, i%(impl.MaxExits+1), len(y.Classes))
			if i%3 > 0 {
				list = slices.DeleteFunc(list, func(x impl.Exit) bool { return x.Kind == impl.XtRaise })
			}
			checkEscapes(t, y, list)
		}
	}
}

func TestP88EscapesOfWays(t *testing.T) {
	x := mustParse(t, house)
	for s, want := range map[string][]int{
		"":                         {0, 1, 2, 3, 4, 5},
		"call 1; tell 2":           {0, 1, 2, 3, 4, 5},
		"catch 5":                  {0, 1, 2, 3, 4},
		"catch 3; call 1":          {0, 1, 2, 4},
		"catch 1":                  {0, 2},
		"catch 4; tell 1; catch 3": {0, 1, 2},
		"catch 2; catch 1":         {0},
		"catch":                    nil,
		// What is raised takes the place of the fault, also one of the same class and code, and also where that was taken away.
		"raise":             nil,
		"raise 3":           nil,
		"raise; catch":      nil,
		"raise 3; catch 3":  nil,
		"raise 2; catch 1":  nil,
		"catch 3; raise 3":  nil,
		"raise 3 1; call 1": nil,
	} {
		if got := impl.EscapesOf(x, exits(s)); !same(got, want) {
			t.Errorf("EscapesOf(%q) = %v", s, got)
		}
	}
}

// lettingOut reports whether a fault comes out of exits with one of some starts.
func lettingOut(x impl.Tree, list []impl.Exit) bool {
	for _, start := range startsOf(x) {
		if _, f := leftOf(x, list, firstFault(start)); f != nil {
			return true
		}
	}
	return false
}

func TestP89QuietExitsLetNothingOut(t *testing.T) {
	x := mustParse(t, house)
	quiet := 0
	for _, list := range append(someExits(), smallExits(4)...) {
		isQuiet := impl.IsQuiet(x, list)
		if isQuiet == lettingOut(x, list) {
			t.Fatalf("IsQuiet(%v) = %v", list, isQuiet)
		}
		if isQuiet {
			quiet++
			if escapes := impl.EscapesOf(x, list); len(escapes) > 0 {
				t.Errorf("EscapesOf(%v) = %v, but they are quiet", list, escapes)
			}
		}
		if closed := slices.Concat(exits("catch"), list); len(closed) <= impl.MaxExits && !impl.IsQuiet(x, closed) {
			t.Errorf("IsQuiet(%v) is false", closed)
		}
	}
	if quiet < 100 {
		t.Errorf("only %d of the exits are quiet", quiet)
	}
}

func TestP89QuietExitsOfWays(t *testing.T) {
	x := mustParse(t, house)
	for s, want := range map[string]bool{
		"": false, "call 1": false, "tell 1": false, "catch": true, "catch 1": false, "catch 1; catch 2": false, "catch 1; catch 2; catch": true, "call 1; tell 2; catch": true, "catch; call 1; tell 2": true,
		"raise 3": false, "raise 3; catch": false, "catch 3; raise 3": true, "catch 1; raise 3": true, "catch 5; raise 3": false, "catch 2; raise 3": false, "catch; raise 3": true,
		// Only without a fault, or only with one, something comes out.
		"catch 1; catch 2; catch 3; catch 4; catch 5": false, "catch 3; catch 2; raise 2 2; call 1": true, "catch 2; raise 3 3; catch 2; raise 2 2": false, "catch 3; raise 3 3; catch 2; raise 2 2": true,
	} {
		if got := impl.IsQuiet(x, exits(s)); got != want {
			t.Errorf("IsQuiet(%q) = %v", s, got)
		}
	}
	// One class is all there is.
	if one := mustParse(t, "any\n"); impl.IsQuiet(one, nil) || !impl.IsQuiet(one, exits("catch")) || impl.IsQuiet(one, exits("raise")) {
		t.Error("IsQuiet of one class")
	}
}

// everyRun calls a function for many programs, each with many exits.
func everyRun(do func(p []impl.Line, list []impl.Exit)) {
	few := fewExits()
	for _, p := range fewPrograms() {
		for _, list := range few {
			do(p, list)
		}
	}
	m := mixer(25)
	for i, p := range somePrograms() {
		do(p, numberedExits(mixedExits(&m, i%(impl.MaxExits+1), 6)))
	}
}

func TestP91ExitsClosePrograms(t *testing.T) {
	x := mustParse(t, house)
	quiet := 0
	everyRun(func(p []impl.Line, list []impl.Exit) {
		run, got := impl.RunProgram(x, p), impl.CloseRun(x, p, list)
		if want := closeRunOf(x, p, list); !sameResult(got, want) {
			t.Fatalf("CloseRun(%v, %v) = %v, want %v", p, list, got, want)
		}
		if !begins(got.Log, run.Log) {
			t.Fatalf("CloseRun(%v, %v) tells %v, but the program %v", p, list, got.Log, run.Log)
		}
		if impl.IsQuiet(x, list) {
			quiet++
			if got.End == impl.EdRaise {
				t.Fatalf("CloseRun(%v, %v) = %v", p, list, got)
			}
		}
	})
	if quiet < 1000 {
		t.Errorf("only %d of the exits are quiet", quiet)
	}
}

// closedRuns are programs with exits, what they tell, how they end, with which value, and the text of their fault.
var closedRuns = []struct {
	p, list    string
	log        []int
	end, value int
	fault      string
}{
	{"", "", nil, impl.EdNext, 0, ""},
	{"log 1", "", []int{1}, impl.EdNext, 0, ""},
	{"", "call 1; tell 2", []int{1}, impl.EdNext, 0, ""},
	{"log 9; with 1; .log 8", "call 1; tell 2; call 3", []int{9, 101, 8, 201, 3, 1}, impl.EdNext, 0, ""},
	{"log 9", "tell 1; raise 3 4; tell 2", []int{9, 1}, impl.EdRaise, 0, "net:4"},
	// What returns goes on with its value, but for a fault.
	{"log 9; return 0", "", []int{9}, impl.EdReturn, 0, ""},
	{"log 9; return 5", "call 1; tell 2; catch", []int{9, 1}, impl.EdReturn, 5, ""},
	{"log 9; return 5", "tell 1; raise 3 4; tell 2", []int{9, 1}, impl.EdRaise, 0, "net:4"},
	{"return 5", "catch 1; tell 1; raise 3 4", []int{1}, impl.EdReturn, 5, ""},
	// A fault goes on alone, without what was handled.
	{"log 9; raise 3 4", "call 1; tell 2", []int{9, 2, 1}, impl.EdRaise, 0, "net:4"},
	{"try; .raise 1 1; finally; .raise 2 2", "", nil, impl.EdRaise, 0, "key:2"},
	{"try; .raise 1 1; finally; .raise 2 2", "raise 3 3; tell 5", []int{5}, impl.EdRaise, 1, "key:2 ~ net:3"},
	{"try; .raise 1 1; finally; .raise 2 2", "tell 4; catch 1; tell 5", []int{5, 4}, impl.EdRaise, 0, "key:2"},
	{"try; .raise 1 1; finally; .raise 2 2", "tell 4; catch 2; tell 5", []int{5}, impl.EdNext, 0, ""},
	{"again", "tell 4; catch 1; tell 5", []int{5, 4}, impl.EdRaise, 0, "any:0"},
	{"raise 3 4", "raise 2 2; catch 1", nil, impl.EdRaise, 0, "key:2"},
	{"raise 3 4", "catch 2; raise 2 2", nil, impl.EdNext, 0, ""},
}

func TestCloseRunOfWays(t *testing.T) {
	x := mustParse(t, house)
	for _, c := range closedRuns {
		r := impl.CloseRun(x, mustProgram(t, x, c.p), exits(c.list))
		text := ""
		if r.End == impl.EdRaise {
			text = impl.ChainText(x, r.Heap, r.Value)
		}
		if !same(r.Log, c.log) || r.End != c.end || r.Value != c.value || text != c.fault || c.fault == "" && len(r.Heap.Faults) > 0 {
			t.Errorf("CloseRun(%q, %q) = %v, and its fault is %q", c.p, c.list, r, text)
		}
	}
}

func TestP92CallsCloseAsALastBlockDoes(t *testing.T) {
	x := mustParse(t, house)
	ends := map[int]int{}
	for _, p := range somePrograms() {
		w, ok := impl.WithFinally(x, p, program("log 77"))
		if !ok {
			continue
		}
		a, b := impl.CloseRun(x, p, exits("call 77")), impl.RunProgram(x, w)
		first, _ := impl.StartOf(x, a)
		second, _ := impl.StartOf(x, b)
		if !same(a.Log, b.Log) || a.End != b.End || first != second || a.End == impl.EdReturn && a.Value != b.Value {
			t.Fatalf("CloseRun(%v) with a call = %v, but a last block %v", p, a, b)
		}
		ends[a.End]++
	}
	if ends[impl.EdNext] < 100 || ends[impl.EdReturn] < 100 || ends[impl.EdRaise] < 100 {
		t.Errorf("the programs end so often with each end: %v", ends)
	}
}

func TestP108WithoutFaultsNothingIsToldByTell(t *testing.T) {
	x := mustParse(t, house)
	for _, list := range append(someExits(), smallExits(4)...) {
		list = slices.DeleteFunc(slices.Clone(list), func(x impl.Exit) bool { return x.Kind == impl.XtRaise })
		var calls []int
		for _, one := range list {
			if one.Kind == impl.XtCall {
				calls = append(calls, one.A)
			}
		}
		slices.Reverse(calls)
		if r := impl.CloseExits(x, list, impl.Start{}); !sameResult(r, impl.Result{Log: calls}) {
			t.Fatalf("CloseExits(%v) without a fault = %v", list, r)
		}
	}
}

// isNothing reports whether a result is the zero value.
func isNothing(r impl.Result) bool {
	return sameResult(r, impl.Result{}) && r.Log == nil && r.Heap.Faults == nil
}

// checkNoExits checks what each function returns if the exits are not valid, or the tree is not.
func checkNoExits(t *testing.T, x impl.Tree, list []impl.Exit) {
	t.Helper()
	shown := list[:min(len(list), 4)]
	for _, start := range []impl.Start{{}, begun(0, 0), begun(0, 100)} {
		if r := impl.CloseExits(x, list, start); !isNothing(r) {
			t.Errorf("CloseExits(%v) = %v", shown, r)
		}
		if p, ok := impl.ProgramOf(x, list, start); ok || p != nil {
			t.Errorf("ProgramOf(%v) = %v, %v", shown, p, ok)
		}
	}
	if more, ok := impl.PushExit(x, list, impl.Exit{}); ok || more != nil {
		t.Errorf("PushExit(%v) = %v, %v", shown, more, ok)
	}
	for _, other := range [][]impl.Exit{nil, exits("call 1"), list} {
		a, okA := impl.JoinExits(x, list, other)
		b, okB := impl.JoinExits(x, other, list)
		if okA || okB || a != nil || b != nil {
			t.Errorf("JoinExits(%v, %v) = %v, %v, and the other way round %v, %v", shown, other, a, okA, b, okB)
		}
	}
	if rest, last, ok := impl.PopExit(x, list); ok || rest != nil || last != (impl.Exit{}) {
		t.Errorf("PopExit(%v) = %v, %v, %v", shown, rest, last, ok)
	}
	if impl.EscapesOf(x, list) != nil || impl.IsQuiet(x, list) || impl.ValidExits(x, list) {
		t.Errorf("%v are valid, quiet, or let something out", shown)
	}
	for _, s := range []string{"", "log 1", "return 4", "raise 0 1"} {
		if r := impl.CloseRun(x, program(s), list); !isNothing(r) {
			t.Errorf("CloseRun(%q, %v) = %v", s, shown, r)
		}
	}
}

func TestInvalidExits(t *testing.T) {
	x := mustParse(t, house)
	for _, list := range invalidExits() {
		checkNoExits(t, x, list)
	}
	for _, y := range invalidTrees() {
		for _, s := range []string{"", "call 1", "catch", "raise", "catch; tell 1; raise 0 5; call 3"} {
			checkNoExits(t, y, exits(s))
		}
	}
	for _, one := range badExits() {
		for _, s := range []string{"", "call 1", "catch 1; raise 3 4"} {
			if more, ok := impl.PushExit(x, exits(s), one); ok || more != nil {
				t.Errorf("PushExit(%q, %v) = %v, %v", s, one, more, ok)
			}
		}
	}
}

func TestExitsOfInvalidStarts(t *testing.T) {
	x := mustParse(t, house)
	for _, start := range badStarts() {
		for _, s := range []string{"", "call 1", "catch", "catch; tell 1; raise 3 4; call 3"} {
			if r := impl.CloseExits(x, exits(s), start); !isNothing(r) {
				t.Errorf("CloseExits(%q, %v) = %v", s, start, r)
			}
			if p, ok := impl.ProgramOf(x, exits(s), start); ok || p != nil {
				t.Errorf("ProgramOf(%q, %v) = %v, %v", s, start, p, ok)
			}
		}
	}
}

func TestCloseRunOfInvalidPrograms(t *testing.T) {
	x := mustParse(t, house)
	for reason, p := range invalidPrograms() {
		for _, s := range []string{"", "call 1", "raise 3 4"} {
			if r := impl.CloseRun(x, p, exits(s)); !isNothing(r) {
				t.Errorf("CloseRun(%q) = %v: %s", s, r, reason)
			}
		}
	}
}

// TestExitsStay checks that no function of exits changes its arguments, and that no result shares memory with them or with another one.
func TestExitsStay(t *testing.T) {
	x := mustParse(t, house)
	for _, s := range []string{"call 1", "raise 3 4", "call 1; tell 2; catch 3", "tell 5; raise 2 2; raise 3 3; call 7"} {
		n := len(exits(s))
		list := append(exits(s), slices.Repeat(exits("call 77"), 8)...)
		p := append(program("log 1; raise 3 5"), slices.Repeat(program("log 88"), 8)...)
		keptList, keptP, keptTree := slices.Clone(list), slices.Clone(p), slices.Clone(x.Classes)
		unchanged := func() bool { return same(list, keptList) && same(p, keptP) && same(x.Classes, keptTree) }
		run := impl.RunProgram(x, p[:2])
		keptRun := impl.Result{Log: slices.Clone(run.Log), End: run.End, Heap: impl.Heap{Faults: slices.Clone(run.Heap.Faults)}}
		impl.StartOf(x, run)
		impl.ValidExits(x, list[:n])
		impl.IsQuiet(x, list[:n])
		lists := exitsOf(x, list[:n])
		var copies [][]impl.Exit
		for _, one := range lists {
			copies = append(copies, slices.Clone(one))
		}
		for i, one := range lists {
			more := one[:cap(one)]
			for j := range more {
				more[j] = impl.Exit{Kind: -44}
			}
			if !unchanged() || !slices.EqualFunc(lists[i+1:], copies[i+1:], same[impl.Exit]) {
				t.Fatalf("result %d of %q shares memory", i, s)
			}
		}
		for range 2 {
			closed, ran := impl.CloseExits(x, list[:n], begun(1, 1)), impl.CloseRun(x, p[:2], list[:n])
			if !sameResult(closed, closeOf(x, exits(s), begun(1, 1))) || !sameResult(ran, closeRunOf(x, program("log 1; raise 3 5"), exits(s))) {
				t.Fatalf("a second call for %q does something else", s)
			}
			form, _ := impl.ProgramOf(x, list[:n], begun(1, 1))
			escapes := impl.EscapesOf(x, list[:n])
			if !same(form, formOf(exits(s), begun(1, 1))) || !same(escapes, passing(x, exits(s))) {
				t.Fatalf("a second call for %q returns something else", s)
			}
			clear(closed.Log[:cap(closed.Log)])
			clear(closed.Heap.Faults[:cap(closed.Heap.Faults)])
			clear(ran.Log[:cap(ran.Log)])
			clear(ran.Heap.Faults[:cap(ran.Heap.Faults)])
			clear(form[:cap(form)])
			clear(escapes[:cap(escapes)])
			if !unchanged() || !sameResult(run, keptRun) {
				t.Fatalf("the arguments are now %v, %v", list, p)
			}
		}
	}
}

// exitsOf returns exits that functions return for some.
func exitsOf(x impl.Tree, list []impl.Exit) [][]impl.Exit {
	pushed, _ := impl.PushExit(x, list, impl.Exit{A: 3})
	alone, _ := impl.PushExit(x, nil, impl.Exit{A: 3})
	twice, _ := impl.JoinExits(x, list, list)
	first, _ := impl.JoinExits(x, list, nil)
	second, _ := impl.JoinExits(x, nil, list)
	popped, _, _ := impl.PopExit(x, list)
	return [][]impl.Exit{pushed, alone, twice, first, second, popped}
}
