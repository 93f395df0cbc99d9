package tests

import (
	"slices"
	"strings"
	"testing"

	"loop.example/faultcleanup/impl"
)

func TestLimitsOfPrograms(t *testing.T) {
	if impl.MaxThing != 9 || impl.MaxTimes != 3 || impl.MaxNest != 5 || impl.MaxLines != 24 || impl.LogOpen != 100 || impl.LogClose != 200 {
		t.Errorf("MaxThing, MaxTimes, MaxNest, MaxLines, LogOpen, LogClose = %d, %d, %d, %d, %d, %d", impl.MaxThing, impl.MaxTimes, impl.MaxNest, impl.MaxLines, impl.LogOpen, impl.LogClose)
	}
	kinds := []int{impl.LnPass, impl.LnLog, impl.LnRaise, impl.LnAgain, impl.LnReturn, impl.LnBreak, impl.LnContinue, impl.LnTry, impl.LnExcept, impl.LnElse, impl.LnFinally, impl.LnWith, impl.LnLoop}
	for i, kind := range kinds {
		if kind != i {
			t.Errorf("the kind of %s is %d", kindWords[i], kind)
		}
	}
	for i, end := range []int{impl.EdNext, impl.EdReturn, impl.EdRaise, impl.EdBreak, impl.EdContinue} {
		if end != i {
			t.Errorf("the end %d is %d", i, end)
		}
	}
}

// checkValid checks ValidProgram of lines that are a program or not, by reading them as blocks.
func checkValid(t *testing.T, x impl.Tree, p []impl.Line) {
	t.Helper()
	if _, want := readPieces(x, p); impl.ValidProgram(x, p) != want {
		t.Errorf("ValidProgram(%v) is not %v", p, want)
	}
}

func TestValidProgram(t *testing.T) {
	x := mustParse(t, house)
	for _, p := range somePrograms() {
		if !impl.ValidProgram(x, p) {
			t.Errorf("ValidProgram(%v) is false", p)
		}
	}
	for reason, p := range invalidPrograms() {
		if impl.ValidProgram(x, p) {
			t.Errorf("ValidProgram is true: %s", reason)
		}
	}
	for _, s := range []string{
		"", "try; .pass; " + strings.Repeat("except 1; .pass; ", 6) + "else; .pass; finally; .pass", strings.Repeat("pass;", 24),
		"loop; .try; ..break; .except; ..continue; .else; ..break; .finally; ..with; ...continue", "try; .try; ..pass; .finally; ..pass; finally; .try; ..pass; .except; ..pass",
		"try; .try; ..pass; .except 1; ..pass; except 2; .pass", "try; .pass; finally; .pass; try; .pass; finally; .pass", "with; .with; ..with; ...with; ....with; .....pass; pass",
	} {
		if !impl.ValidProgram(x, program(s)) {
			t.Errorf("ValidProgram(%q) is false", s)
		}
	}
}

// TestValidProgramOfAllLines takes all lists of a few lines of all kinds at depths of 0 to 2, and all of some more lines of fewer kinds.
func TestValidProgramOfAllLines(t *testing.T) {
	x := mustParse(t, house)
	for _, picks := range listsOf(3*len(kindWords), 3) {
		var p []impl.Line
		for _, k := range picks {
			p = append(p, impl.Line{Depth: k % 3, Kind: k / 3})
		}
		checkValid(t, x, p)
	}
	few := program("pass; .pass; .break; try; .try; except; .except; else; finally; .finally; loop")
	for _, picks := range listsOf(len(few), 5) {
		var p []impl.Line
		for _, k := range picks {
			p = append(p, few[k])
		}
		checkValid(t, x, p)
	}
}

// TestValidProgramOfChanges changes a line of a program, leaves one out, or takes one twice.
func TestValidProgramOfChanges(t *testing.T) {
	x := mustParse(t, house)
	m := mixer(9)
	for _, p := range somePrograms() {
		if len(p) == 0 {
			continue
		}
		for range 4 {
			i := m.below(len(p))
			q := slices.Clone(p)
			switch m.below(6) {
			case 0:
				q[i].Depth += m.below(5) - 2
			case 1:
				q[i].Kind = m.below(len(kindWords))
			case 2:
				q[i].A = []int{-1, 3, 4, 5, 6, 9, 10, 99, 100}[m.below(9)]
			case 3:
				q[i].B = []int{-1, 0, 1, 2, 99, 100}[m.below(6)]
			case 4:
				q = slices.Delete(q, i, i+1)
			case 5:
				q = slices.Insert(q, i, q[m.below(len(q))])
			}
			checkValid(t, x, q)
		}
	}
}

func TestValidProgramOfNumbers(t *testing.T) {
	for _, x := range []impl.Tree{mustParse(t, house), mustParse(t, "any\n"), treeOf([]int{-1, 0, 0, 0, 0, 0, 0, 0})} {
		for kind := range kindWords {
			for _, b := range append([]int{-1, 0, 1, 2, 99}, far...) {
				for a := -2; a <= 102; a++ {
					checkValid(t, x, around(impl.Line{Kind: kind, A: a, B: b}))
				}
				for _, a := range far {
					checkValid(t, x, around(impl.Line{Kind: kind, A: a, B: b}))
				}
			}
		}
	}
}

// checkNoProgram checks what each function returns if the lines p are no program, or the tree is not valid.
func checkNoProgram(t *testing.T, reason string, x impl.Tree, p []impl.Line) {
	t.Helper()
	if impl.ValidProgram(x, p) {
		t.Errorf("ValidProgram is true: %s", reason)
	}
	if r := impl.RunProgram(x, p); !sameResult(r, impl.Result{}) || r.Log != nil || r.Heap.Faults != nil {
		t.Errorf("RunProgram = %v: %s", r, reason)
	}
	if impl.RunLog(x, p) != nil || impl.FaultText(x, p) != "" || impl.DropDead(x, p) != nil {
		t.Errorf("RunLog, FaultText or DropDead has something: %s", reason)
	}
	if q, ok := impl.LowerWith(x, p); ok || q != nil {
		t.Errorf("LowerWith = %v, %v: %s", q, ok, reason)
	}
	for n := -1; n <= 4; n++ {
		if q, ok := impl.InLoop(x, p, n); ok || q != nil {
			t.Errorf("InLoop(%d) = %v, %v: %s", n, q, ok, reason)
		}
	}
	for _, other := range [][]impl.Line{nil, program("log 1"), p} {
		checkNoPrograms(t, reason, x, p, other)
		checkNoPrograms(t, reason, x, other, p)
	}
}

// checkNoPrograms checks what each function returns for two lists of lines of which one is no program.
func checkNoPrograms(t *testing.T, reason string, x impl.Tree, p, q []impl.Line) {
	t.Helper()
	if w, ok := impl.ThenProgram(x, p, q); ok || w != nil {
		t.Errorf("ThenProgram = %v, %v: %s", w, ok, reason)
	}
	if w, ok := impl.WithFinally(x, p, q); ok || w != nil {
		t.Errorf("WithFinally = %v, %v: %s", w, ok, reason)
	}
	if w, ok := impl.WithExcept(x, p, 0, q); ok || w != nil {
		t.Errorf("WithExcept = %v, %v: %s", w, ok, reason)
	}
}

// TestInvalidPrograms asks each function about lines that are no program. Some of them would be the block of a valid one.
func TestInvalidPrograms(t *testing.T) {
	x := mustParse(t, house)
	for reason, p := range invalidPrograms() {
		checkNoProgram(t, reason, x, p)
	}
	up := impl.Line{Depth: -1, Kind: impl.LnExcept, A: 1}
	checkNoProgram(t, "an except that is less deep", x, []impl.Line{{}, up, {}})
	checkNoProgram(t, "a line that is less deep", x, []impl.Line{{}, {Depth: -1}})
}

func TestProgramsOfInvalidTrees(t *testing.T) {
	for reason, x := range invalidTrees() {
		for _, s := range []string{"", "log 1", "raise 0 1", "again", "try; .again; except 0; .pass"} {
			checkNoProgram(t, reason, x, program(s))
		}
	}
}

// TestRunProgram holds RunProgram against a plain run without panics.
func TestRunProgram(t *testing.T) {
	x := mustParse(t, house)
	for _, p := range append(somePrograms(), smallPrograms(5)...) {
		want, _ := runOf(x, p)
		if got := impl.RunProgram(x, p); !sameResult(got, want) {
			t.Fatalf("RunProgram(%v) = %v, want %v", p, got, want)
		}
	}
	m := mixer(10)
	for _, y := range someTrees() {
		for n := 1; n <= impl.MaxLines; n++ {
			p := mixedProgram(&m, n, len(y.Classes))
			want, _ := runOf(y, p)
			if got := impl.RunProgram(y, p); !sameResult(got, want) {
				t.Fatalf("RunProgram(%v) of %v = %v, want %v", p, y, got, want)
			}
		}
	}
}

// ways are programs with what they tell, how they end, with which value, and the text of their fault.
var ways = []struct {
	p          string
	log        []int
	end, value int
	fault      string
}{
	{"", nil, impl.EdNext, 0, ""},
	{"pass", nil, impl.EdNext, 0, ""},
	{"log 1; log 0; log 99", []int{1, 0, 99}, impl.EdNext, 0, ""},
	{"log 1; return 0; log 2", []int{1}, impl.EdReturn, 0, ""},
	{"return 99", nil, impl.EdReturn, 99, ""},
	{"raise 3 7; log 1", nil, impl.EdRaise, 0, "net:7"},
	// Nothing to raise again: a new fault of the root.
	{"again", nil, impl.EdRaise, 0, "any:0"},
	{"log 1; again; log 2", []int{1}, impl.EdRaise, 0, "any:0"},
	{"try; .again; except 1; .log 1; finally; .log 2", []int{2}, impl.EdRaise, 0, "any:0"},
	{"try; .again; except 0; .log 1; .again", []int{1}, impl.EdRaise, 0, "any:0"},
	{"try; .return 3; finally; .again", nil, impl.EdRaise, 0, "any:0"},
	{"loop 2; .try; ..break; .finally; ..again", nil, impl.EdRaise, 0, "any:0"},
	{"try; .log 1; finally; .again", []int{1}, impl.EdRaise, 0, "any:0"},
	{"try; .log 1; except 0; .log 2; else; .again", []int{1}, impl.EdRaise, 0, "any:0"},
	{"try; .raise 1 1; except 1; .pass; again", nil, impl.EdRaise, 0, "any:0"},
	{"try; .raise 1 1; except 1; .pass; finally; .again", nil, impl.EdRaise, 0, "any:0"},
	{"with 1 1; .again", []int{101, 201}, impl.EdNext, 0, ""},
	// Something to raise again: the fault that is handled, as it is.
	{"try; .raise 1 1; except 0; .again", nil, impl.EdRaise, 0, "io:1"},
	{"try; .raise 1 1; finally; .again", nil, impl.EdRaise, 0, "io:1"},
	{"try; .raise 1 1; except 1; .try; ..again; .except 1; ..again", nil, impl.EdRaise, 0, "io:1"},
	{"try; .raise 1 1; except 1; .try; ..return 3; .finally; ..again", nil, impl.EdRaise, 0, "io:1"},
	{"try; .raise 1 1; except 1; .try; ..raise 2 2; .except 2; ..log 1; .again", []int{1}, impl.EdRaise, 0, "io:1"},
	{"try; .raise 1 1; except 1; .try; ..raise 2 2; .except 2; ..again", nil, impl.EdRaise, 1, "io:1 ~ key:2"},
	{"try; .raise 1 1; except 1; .try; ..log 1; .except 0; ..log 2; .else; ..again", []int{1}, impl.EdRaise, 0, "io:1"},
	{"try; .raise 1 1; except 1; .loop 3; ..with 4; ...again", []int{104, 204}, impl.EdRaise, 0, "io:1"},
	// Only the first LnExcept that catches is run, and what it or LnElse raises is not caught there.
	{"try; .log 1; except 0; .log 2", []int{1}, impl.EdNext, 0, ""},
	{"try; .log 1; except 0; .log 2; else; .log 3", []int{1, 3}, impl.EdNext, 0, ""},
	{"try; .raise 5 1; .log 1; except 4; .log 2; except 3; .log 3; except 1; .log 4; else; .log 5; finally; .log 6", []int{3, 6}, impl.EdNext, 0, ""},
	{"try; .raise 1 1; except 3; .log 1; finally; .log 2", []int{2}, impl.EdRaise, 0, "io:1"},
	{"try; .raise 1 1; except 1; .raise 2 2; except 2; .log 1; except 0; .log 2; finally; .log 3", []int{3}, impl.EdRaise, 1, "io:1 ~ key:2"},
	{"try; .log 1; except 0; .log 2; else; .raise 1 1; finally; .log 3", []int{1, 3}, impl.EdRaise, 0, "io:1"},
	{"try; .return 5; except 0; .log 1; else; .log 2; finally; .log 3", []int{3}, impl.EdReturn, 5, ""},
	{"try; .raise 1 1; except 1; .return 5; else; .log 2; finally; .log 3", []int{3}, impl.EdReturn, 5, ""},
	{"try; .log 1; except 1; .log 2; else; .return 6; finally; .log 3", []int{1, 3}, impl.EdReturn, 6, ""},
	// Faults in last blocks.
	{"try; .log 1; finally; .raise 1 1", []int{1}, impl.EdRaise, 0, "io:1"},
	{"try; .return 4; finally; .raise 1 1", nil, impl.EdRaise, 0, "io:1"},
	{"try; .raise 1 1; finally; .raise 2 2", nil, impl.EdRaise, 1, "io:1 ~ key:2"},
	{"try; .raise 1 1; except 1; .raise 2 2; finally; .raise 3 3", nil, impl.EdRaise, 2, "io:1 ~ key:2 ~ net:3"},
	{"try; .raise 1 1; except 1; .log 1; finally; .raise 3 3", []int{1}, impl.EdRaise, 0, "net:3"},
	{"try; .raise 1 1; finally; .return 4", nil, impl.EdReturn, 4, ""},
	{"try; .return 3; finally; .return 4", nil, impl.EdReturn, 4, ""},
	{"try; .raise 1 1; finally; .try; ..raise 2 2; .except 2; ..pass", nil, impl.EdRaise, 0, "io:1"},
	{"try; .raise 1 1; finally; .try; ..raise 2 2; .except 2; ..raise 3 3", nil, impl.EdRaise, 2, "io:1 ~ key:2 ~ net:3"},
	{"try; .raise 1 1; finally; .with 5 1; ..again", []int{105, 205}, impl.EdRaise, 0, "io:1"},
	{"try; .try; ..raise 1 1; .finally; ..raise 2 2; except 1; .log 1; except 2; .log 2", []int{2}, impl.EdNext, 0, ""},
	{"try; .raise 1 1; except 1; .try; ..log 1; .finally; ..raise 2 2", []int{1}, impl.EdRaise, 1, "io:1 ~ key:2"},
	{"try; .raise 1 1; except 1; .try; ..return 7; .finally; ..raise 2 2", nil, impl.EdRaise, 1, "io:1 ~ key:2"},
	// Jumps out of loops through last blocks.
	{"loop 3; .try; ..break; .finally; ..log 1; log 2", []int{1, 2}, impl.EdNext, 0, ""},
	{"loop 3; .try; ..continue; .finally; ..log 1; log 2", []int{1, 1, 1, 2}, impl.EdNext, 0, ""},
	{"loop 3; .try; ..raise 1 1; .finally; ..continue; log 2", []int{2}, impl.EdNext, 0, ""},
	{"loop 3; .try; ..return 1; .finally; ..break; log 2", []int{2}, impl.EdNext, 0, ""},
	{"loop 3; .log 1; .try; ..return 1; .finally; ..continue; log 2", []int{1, 1, 1, 2}, impl.EdNext, 0, ""},
	{"loop 3; .log 1; .try; ..break; .finally; ..continue; log 2", []int{1, 1, 1, 2}, impl.EdNext, 0, ""},
	{"loop 3; .log 1; .try; ..continue; .finally; ..break; log 2", []int{1, 2}, impl.EdNext, 0, ""},
	{"loop 3; .try; ..break; .finally; ..raise 1 1", nil, impl.EdRaise, 0, "io:1"},
	{"loop 3; .try; ..continue; .finally; ..return 8", nil, impl.EdReturn, 8, ""},
	{"loop 2; .with 1; ..with 2 1; ...break; log 3", []int{101, 102, 202, 201, 3}, impl.EdNext, 0, ""},
	{"loop 2; .with 1 1; ..continue; log 3", []int{101, 201, 101, 201, 3}, impl.EdNext, 0, ""},
	{"loop 2; .loop 2; ..log 1; ..break; .log 2", []int{1, 2, 1, 2}, impl.EdNext, 0, ""},
	{"loop 2; .loop 2; ..log 1; ..continue; ..log 3; .log 2", []int{1, 1, 2, 1, 1, 2}, impl.EdNext, 0, ""},
	{"try; .raise 1 1; finally; .loop 2; ..break", nil, impl.EdRaise, 0, "io:1"},
	{"try; .loop 2; ..try; ...raise 1 1; ..finally; ...break; finally; .again", nil, impl.EdRaise, 0, "any:0"},
	// Loops, and things that are opened.
	{"loop; .raise 1 1", nil, impl.EdNext, 0, ""},
	{"loop 1; .log 1", []int{1}, impl.EdNext, 0, ""},
	{"loop 3; .log 1; .return 2", []int{1}, impl.EdReturn, 2, ""},
	{"loop 3; .log 1; .raise 2 2", []int{1}, impl.EdRaise, 0, "key:2"},
	{"with; .with 9; ..log 1", []int{100, 109, 1, 209, 200}, impl.EdNext, 0, ""},
	{"with 1; .raise 2 2; log 1", []int{101, 201}, impl.EdRaise, 0, "key:2"},
	{"with 1 1; .raise 2 2; log 1", []int{101, 201, 1}, impl.EdNext, 0, ""},
	{"with 1 1; .return 2; log 1", []int{101, 201}, impl.EdReturn, 2, ""},
	{"try; .with 1 1; ..raise 2 2; except 0; .log 1; else; .log 2", []int{101, 201, 2}, impl.EdNext, 0, ""},
	{"try; .raise 1 1; except 1; .with 1 1; ..raise 2 2; .raise 3 3", []int{101, 201}, impl.EdRaise, 1, "io:1 ~ net:3"},
}

func TestRunProgramOfWays(t *testing.T) {
	x := mustParse(t, house)
	for _, c := range ways {
		p := program(c.p)
		r := impl.RunProgram(x, p)
		if !same(r.Log, c.log) || r.End != c.end || r.Value != c.value || impl.FaultText(x, p) != c.fault || !same(impl.RunLog(x, p), c.log) {
			t.Errorf("RunProgram(%q) = %v, and FaultText is %q", c.p, r, impl.FaultText(x, p))
		}
		if r.End == impl.EdRaise && len(r.Heap.Faults) != strings.Count(c.fault, ":") {
			t.Errorf("RunProgram(%q) has the heap %v", c.p, r.Heap)
		}
	}
}

func TestP54ProgramsCanDoNothing(t *testing.T) {
	x := mustParse(t, house)
	for _, p := range somePrograms() {
		q := slices.Clone(p)
		for i := range q {
			if q[i].Kind == impl.LnLog {
				q[i].Kind, q[i].A = impl.LnPass, 0
			}
		}
		if !impl.ValidProgram(x, q) {
			t.Errorf("%v with nothing in the place of what is told is not valid", p)
		}
	}
	if impl.ValidProgram(x, program("pass 1")) || impl.ValidProgram(x, program("pass 0 1")) || !impl.ValidProgram(x, program("pass")) || !impl.ValidProgram(x, nil) {
		t.Error("ValidProgram of nothing")
	}
}

func TestP55ProgramsEndInThreeWays(t *testing.T) {
	x := mustParse(t, house)
	for _, p := range somePrograms() {
		r := impl.RunProgram(x, p)
		switch r.End {
		case impl.EdNext:
			if r.Value != 0 || r.Heap.Faults != nil {
				t.Errorf("RunProgram(%v) = %v", p, r)
			}
		case impl.EdReturn:
			if r.Value < 0 || r.Value > 99 || r.Heap.Faults != nil {
				t.Errorf("RunProgram(%v) = %v", p, r)
			}
		case impl.EdRaise:
			if !impl.ValidHeap(x, r.Heap) || len(impl.ReachOf(x, r.Heap, r.Value)) != len(r.Heap.Faults) || len(r.Heap.Faults) == 0 {
				t.Errorf("RunProgram(%v) = %v", p, r)
			}
		default:
			t.Errorf("RunProgram(%v) ends with %d", p, r.End)
		}
	}
}

// TestP55HeapsOfManyFaults takes runs of more faults than a heap has, and of the longest chain.
func TestP55HeapsOfManyFaults(t *testing.T) {
	x := mustParse(t, house)
	many := "loop 3; .loop 3; ..loop 3; ...with 0 1; ....raise 1 1; ...with 0 1; ....raise 1 2;"
	for tail, want := range map[string]string{
		"raise 2 2": "key:2",
		"try; .raise 2 2; finally; .loop 3; ..with 1 1; ...raise 1 3; .raise 3 3": "key:2 ~ net:3",
		"try; .raise 2 2; except 0; .loop 3; ..with 1 1; ...raise 1 3; .again":    "key:2",
		"again": "any:0",
	} {
		p := program(many + tail)
		if r := impl.RunProgram(x, p); r.End != impl.EdRaise || r.Value != len(r.Heap.Faults)-1 || impl.FaultText(x, p) != want || len(r.Heap.Faults) != strings.Count(want, ":") {
			t.Errorf("RunProgram of many faults and %q = %v, and FaultText is %q", tail, r, impl.FaultText(x, p))
		}
	}
	// The fault that is handled was raised ahead of all the many ones.
	for s, want := range map[string]string{
		"try; .raise 2 2; finally; .loop 3; ..loop 3; ...loop 3; ....with 0 1; .....raise 1 1; .raise 3 3":  "key:2 ~ net:3",
		"try; .raise 2 2; except 2; .loop 3; ..loop 3; ...loop 3; ....with 0 1; .....raise 1 1; .again":     "key:2",
		"try; .raise 2 2; except 2; .loop 3; ..loop 3; ...loop 3; ....with 0 1; .....raise 1 1; .raise 4 4": "key:2 ~ disk:4",
	} {
		p := program(s)
		if r := impl.RunProgram(x, p); r.End != impl.EdRaise || r.Value != len(r.Heap.Faults)-1 || impl.FaultText(x, p) != want || len(r.Heap.Faults) != strings.Count(want, ":") {
			t.Errorf("RunProgram(%q) = %v, and FaultText is %q", s, r, impl.FaultText(x, p))
		}
	}
	chain := longPrograms()[5]
	want := "any:1 ~ io:2 ~ key:3 ~ net:4 ~ disk:5 ~ wifi:6 ~ any:7 ~ io:8"
	if r := impl.RunProgram(x, chain); r.Value != 7 || len(r.Heap.Faults) != 8 || impl.FaultText(x, chain) != want {
		t.Errorf("RunProgram of the longest chain = %v, and FaultText is %q", r, impl.FaultText(x, chain))
	}
}

func TestP56WhatIsOpenedIsClosed(t *testing.T) {
	x := mustParse(t, house)
	for _, p := range somePrograms() {
		var open []int
		for _, n := range impl.RunProgram(x, p).Log {
			switch {
			case n >= impl.LogClose:
				if len(open) == 0 || open[len(open)-1] != n-impl.LogClose || n > impl.LogClose+impl.MaxThing {
					t.Fatalf("RunProgram(%v) closes %d, but %v is open", p, n, open)
				}
				open = open[:len(open)-1]
			case n >= impl.LogOpen:
				open = append(open, n-impl.LogOpen)
			}
		}
		if len(open) > 0 {
			t.Errorf("RunProgram(%v) leaves %v open", p, open)
		}
	}
}

func TestP57LogsAreOfPrograms(t *testing.T) {
	x := mustParse(t, house)
	for _, p := range somePrograms() {
		log := impl.RunLog(x, p)
		want, _ := runOf(x, p)
		if !same(log, impl.RunProgram(x, p).Log) || !same(log, want.Log) {
			t.Errorf("RunLog(%v) = %v, want %v", p, log, want.Log)
		}
		q := slices.Clone(p)
		for i := range q {
			if q[i].Kind == impl.LnLog {
				q[i].A = 99 - q[i].A
			}
			if q[i].Kind == impl.LnWith {
				q[i].A = 9 - q[i].A
			}
		}
		changed := impl.RunLog(x, q)
		if len(changed) != len(log) {
			t.Fatalf("RunLog(%v) = %v, and %v with all that is told changed", p, log, changed)
		}
		for i := range log {
			if sum := log[i] + changed[i]; sum != 99 && sum != 209 && sum != 409 {
				t.Errorf("RunLog(%v) = %v, and %v with all that is told changed", p, log, changed)
			}
		}
	}
}

func TestP58FaultsOfProgramsHaveTexts(t *testing.T) {
	x := mustParse(t, house)
	for _, p := range somePrograms() {
		text := impl.FaultText(x, p)
		r := impl.RunProgram(x, p)
		if r.End != impl.EdRaise {
			if text != "" {
				t.Errorf("FaultText(%v) = %q, but the program ends with %d", p, text, r.End)
			}
			continue
		}
		want, _ := runOf(x, p)
		if text != impl.ChainText(x, r.Heap, r.Value) || text != textFrom(x, want.Heap, want.Value) {
			t.Errorf("FaultText(%v) = %q", p, text)
		}
		if strings.Contains(text, ">") || strings.Count(text, "~") != len(r.Heap.Faults)-1 {
			t.Errorf("FaultText(%v) = %q has other arrows, and the heap is %v", p, text, r.Heap)
		}
	}
}

// fits reports whether lines so many and so deep, put into more lines that are deeper by a number, are a program.
func fits(p []impl.Line, more, deeper int) bool {
	if len(p)+more > impl.MaxLines {
		return false
	}
	for _, n := range p {
		if n.Depth+deeper > impl.MaxNest {
			return false
		}
	}
	return true
}

// orPass returns the lines as a block at the depth 1, where a program of no lines is LnPass.
func orPass(p []impl.Line) []impl.Line {
	if len(p) == 0 {
		return program(".pass")
	}
	var out []impl.Line
	for _, n := range p {
		out = append(out, impl.Line{Depth: n.Depth + 1, Kind: n.Kind, A: n.A, B: n.B})
	}
	return out
}

func TestP59ProgramsGoOneAfterTheOther(t *testing.T) {
	x := mustParse(t, house)
	everyTwoPrograms(func(p, q []impl.Line) {
		w, ok := impl.ThenProgram(x, p, q)
		if ok != fits(p, len(q), 0) || !ok && w != nil {
			t.Fatalf("ThenProgram(%v, %v) = %v, %v", p, q, w, ok)
		}
		if !ok {
			return
		}
		first, second, got := impl.RunProgram(x, p), impl.RunProgram(x, q), impl.RunProgram(x, w)
		if first.End == impl.EdNext {
			second.Log = slices.Concat(first.Log, second.Log)
			first = second
		}
		if !same(w, slices.Concat(p, q)) || !sameResult(got, first) {
			t.Errorf("ThenProgram(%v, %v) = %v, which does %v", p, q, w, got)
		}
	})
}

// TestP59PartsOfPrograms cuts programs in two: together they are one, but each part must be one, too.
func TestP59PartsOfPrograms(t *testing.T) {
	x := mustParse(t, house)
	cut := 0
	for _, p := range somePrograms() {
		for i := range len(p) + 1 {
			_, first := readPieces(x, p[:i])
			_, second := readPieces(x, p[i:])
			w, ok := impl.ThenProgram(x, p[:i], p[i:])
			if ok != (first && second) || ok && !same(w, p) || !ok && w != nil {
				t.Fatalf("ThenProgram(%v, %v) = %v, %v", p[:i], p[i:], w, ok)
			}
			if first != second {
				cut++
			}
		}
	}
	if cut < 100 {
		t.Errorf("only %d times just one of the parts is a program", cut)
	}
}

func TestP60WhatComesLastIsRunWhateverEnds(t *testing.T) {
	x := mustParse(t, house)
	everyTwoPrograms(func(p, q []impl.Line) {
		w, ok := impl.WithFinally(x, p, q)
		want := slices.Concat(program("try"), orPass(p), program("finally"), orPass(q))
		if ok != fits(want, 0, 0) || !ok && w != nil || ok && !same(w, want) {
			t.Fatalf("WithFinally(%v, %v) = %v, %v", p, q, w, ok)
		}
		if !ok || asks(x, q) {
			return
		}
		first, second, got := impl.RunProgram(x, p), impl.RunProgram(x, q), impl.RunProgram(x, w)
		if !same(got.Log, slices.Concat(first.Log, second.Log)) {
			t.Errorf("WithFinally(%v, %v) tells %v", p, q, got.Log)
		}
		switch second.End {
		case impl.EdNext:
			if !endsAlike(got, first) {
				t.Errorf("WithFinally(%v, %v) does %v, but the first one %v", p, q, got, first)
			}
		case impl.EdReturn:
			if !endsAlike(got, second) {
				t.Errorf("WithFinally(%v, %v) does %v, but the second one %v", p, q, got, second)
			}
		default:
			// The fault is the same, but may have more contexts.
			if got.End != impl.EdRaise || aloneText(x, got.Heap.Faults[got.Value]) != aloneText(x, second.Heap.Faults[second.Value]) {
				t.Errorf("WithFinally(%v, %v) does %v, but the second one %v", p, q, got, second)
			}
		}
	})
}

func TestP61WhatIsRaisedLastHasWhatWasRaisedFirstAsItsContext(t *testing.T) {
	x := mustParse(t, house)
	count := 0
	everyTwoPrograms(func(p, q []impl.Line) {
		first, second := impl.FaultText(x, p), impl.FaultText(x, q)
		w, ok := impl.WithFinally(x, p, q)
		if !ok || second == "" || asks(x, q) {
			return
		}
		want := second
		if first != "" {
			want = first + " ~ " + second
			count++
		}
		if got := impl.FaultText(x, w); got != want {
			t.Errorf("FaultText of WithFinally(%v, %v) = %q, want %q", p, q, got, want)
		}
	})
	if count < 100 {
		t.Errorf("only %d of the programs end with faults both", count)
	}
}

func TestP62FaultsAreHandled(t *testing.T) {
	x := mustParse(t, house)
	passed, handled := 0, 0
	everyTwoPrograms(func(p, q []impl.Line) {
		first, second := impl.RunProgram(x, p), impl.RunProgram(x, q)
		for _, a := range []int{0, 1, 2, 5} {
			w, ok := impl.WithExcept(x, p, a, q)
			want := slices.Concat(program("try"), orPass(p), []impl.Line{{Kind: impl.LnExcept, A: a}}, orPass(q))
			if ok != fits(want, 0, 0) || !ok && w != nil || ok && !same(w, want) {
				t.Fatalf("WithExcept(%v, %d, %v) = %v, %v", p, a, q, w, ok)
			}
			if !ok {
				continue
			}
			got := impl.RunProgram(x, w)
			if first.End != impl.EdRaise || !isBelow(x, first.Heap.Faults[first.Value].Class, a) {
				passed++
				if !sameResult(got, first) {
					t.Errorf("WithExcept(%v, %d, %v) does %v, but the first one %v", p, a, q, got, first)
				}
				continue
			}
			if asks(x, q) {
				continue
			}
			handled++
			if !same(got.Log, slices.Concat(first.Log, second.Log)) || got.End != second.End || got.End != impl.EdRaise && got.Value != second.Value {
				t.Errorf("WithExcept(%v, %d, %v) does %v", p, a, q, got)
			}
			if text := impl.FaultText(x, w); got.End == impl.EdRaise && text != impl.FaultText(x, p)+" ~ "+impl.FaultText(x, q) {
				t.Errorf("FaultText of WithExcept(%v, %d, %v) = %q", p, a, q, text)
			}
		}
	})
	if passed < 1000 || handled < 1000 {
		t.Errorf("only %d programs end with no fault of the class, and %d with one", passed, handled)
	}
}

func TestExceptOfNoClass(t *testing.T) {
	x := mustParse(t, house)
	for _, a := range append([]int{100}, outside...) {
		for _, s := range []string{"", "log 1", "raise 1 1"} {
			if w, ok := impl.WithExcept(x, program(s), a, nil); ok || w != nil {
				t.Errorf("WithExcept(%q, %d) = %v, %v", s, a, w, ok)
			}
		}
	}
}

// TestBlocksOfNothing checks that LnPass is the block for a program without lines.
func TestBlocksOfNothing(t *testing.T) {
	x := mustParse(t, house)
	then, _ := impl.ThenProgram(x, nil, nil)
	finally, _ := impl.WithFinally(x, nil, nil)
	except, _ := impl.WithExcept(x, nil, 3, nil)
	loop, _ := impl.InLoop(x, nil, 2)
	for i, c := range []struct {
		got  []impl.Line
		want string
	}{{then, ""}, {finally, "try; .pass; finally; .pass"}, {except, "try; .pass; except 3; .pass"}, {loop, "loop 2; .pass"}} {
		if !same(c.got, program(c.want)) {
			t.Errorf("form %d of nothing is %v, want %q", i, c.got, c.want)
		}
	}
	if low, ok := impl.LowerWith(x, nil); !ok || len(low) != 0 || len(impl.DropDead(x, nil)) != 0 {
		t.Errorf("LowerWith of nothing = %v, %v", low, ok)
	}
}

func TestP63LoopsDoItAgain(t *testing.T) {
	x := mustParse(t, house)
	for _, p := range somePrograms() {
		once := impl.RunProgram(x, p)
		for n := range impl.MaxTimes + 1 {
			w, ok := impl.InLoop(x, p, n)
			want := append([]impl.Line{{Kind: impl.LnLoop, A: n}}, orPass(p)...)
			if ok != fits(want, 0, 0) || !ok && w != nil || ok && !same(w, want) {
				t.Fatalf("InLoop(%v, %d) = %v, %v", p, n, w, ok)
			}
			if !ok {
				continue
			}
			does := once
			if n == 0 {
				does = impl.Result{}
			} else if once.End == impl.EdNext {
				does.Log = slices.Repeat(once.Log, n)
			}
			if got := impl.RunProgram(x, w); !sameResult(got, does) {
				t.Errorf("InLoop(%v, %d) does %v, want %v", p, n, got, does)
			}
		}
	}
	for _, n := range append([]int{-1, 4, 5}, far...) {
		for _, p := range fewPrograms() {
			if w, ok := impl.InLoop(x, p, n); ok || w != nil {
				t.Errorf("InLoop(%v, %d) = %v, %v", p, n, w, ok)
			}
		}
	}
}

// manyExcepts returns programs of tries with many LnExcept, some in blocks of others.
func manyExcepts(x impl.Tree) [][]impl.Line {
	m := mixer(11)
	var out [][]impl.Line
	for i := range 2000 {
		p := mixedProgram(&m, 1+i%impl.MaxLines, len(x.Classes))
		list, _ := readPieces(x, p)
		for range 3 {
			a, b := m.below(len(x.Classes)), m.below(len(x.Classes))
			one := piece{line: impl.Line{Kind: impl.LnTry}, block: []piece{{line: impl.Line{Kind: impl.LnRaise, A: a, B: i % 100}}}}
			for _, c := range []int{b, m.below(len(x.Classes)), m.below(len(x.Classes))} {
				body := list
				if m.below(2) == 0 || len(body) == 0 {
					body = []piece{{line: impl.Line{Kind: impl.LnLog, A: c}}}
				}
				one.later = append(one.later, piece{line: impl.Line{Kind: impl.LnExcept, A: c}, block: body})
			}
			if p := linesOf([]piece{one}, 0); fits(p, 0, 0) {
				list = []piece{one}
				out = append(out, p)
			}
		}
	}
	return out
}

func TestP64WhatNeverCatchesMeansNothing(t *testing.T) {
	for _, x := range []impl.Tree{mustParse(t, house), treeOf([]int{-1, 0, 1, 2, 3, 4})} {
		fewer := 0
		for _, p := range append(somePrograms(), manyExcepts(x)...) {
			d := impl.DropDead(x, p)
			list, _ := readPieces(x, p)
			if want := linesOf(undropped(x, list), 0); !same(d, want) {
				t.Fatalf("DropDead(%v) = %v, want %v", p, d, want)
			}
			if !impl.ValidProgram(x, d) || !sameResult(impl.RunProgram(x, d), impl.RunProgram(x, p)) || !same(impl.DropDead(x, d), d) || len(d) > len(p) {
				t.Errorf("DropDead(%v) = %v", p, d)
			}
			if len(d) < len(p) {
				fewer++
			}
		}
		if fewer < 100 {
			t.Errorf("only %d of the programs have fewer lines", fewer)
		}
	}
}

func TestP64DeadExceptsOfWays(t *testing.T) {
	x := mustParse(t, house)
	for _, c := range []struct{ p, want string }{
		{"log 1", "log 1"},
		{"try; .pass; except 1; .log 1; except 1; .log 2", "try; .pass; except 1; .log 1"},
		{"try; .pass; except 3; .log 1; except 1; .log 2", "try; .pass; except 3; .log 1; except 1; .log 2"},
		{"try; .pass; except 1; .log 1; except 2; .log 2; except 5; .log 3; ..log 4; else; .log 5", ""},
		{"try; .pass; except 1; .log 1; except 2; .log 2; except 5; .with 3; ..log 4; else; .log 5; finally; .log 6", "try; .pass; except 1; .log 1; except 2; .log 2; else; .log 5; finally; .log 6"},
		{"try; .pass; except 0; .log 1; except 0; .log 2; except 1; .log 3; except 2; .log 4; finally; .log 5", "try; .pass; except 0; .log 1; finally; .log 5"},
		// Only what is ahead in the same try counts.
		{"try; .pass; except 1; .try; ..pass; .except 1; ..log 1; except 2; .log 2", "try; .pass; except 1; .try; ..pass; .except 1; ..log 1; except 2; .log 2"},
		{"try; .pass; except 1; .log 1; try; .pass; except 1; .log 2", "try; .pass; except 1; .log 1; try; .pass; except 1; .log 2"},
		{"try; .try; ..pass; .except 1; ..log 1; .except 3; ..log 2; except 1; .log 3", "try; .try; ..pass; .except 1; ..log 1; except 1; .log 3"},
		{"try; .pass; except 1; .log 1; except 3; .try; ..pass; .except 2; ..log 2; .except 2; ..log 3; except 2; .log 4", "try; .pass; except 1; .log 1; except 2; .log 4"},
		{"try; .pass; except 0; .try; ..pass; .except 2; ..log 2; .except 2; ..log 3", "try; .pass; except 0; .try; ..pass; .except 2; ..log 2"},
	} {
		if got := impl.DropDead(x, program(c.p)); !same(got, program(c.want)) {
			t.Errorf("DropDead(%q) = %v, want %q", c.p, got, c.want)
		}
	}
}

// lessAdded returns what is told without what is added to it.
func lessAdded(log []int) []int {
	out := slices.Clone(log)
	for i := range out {
		out[i] %= 100
	}
	return out
}

func TestP65WhatIsOpenedCanBeClosedByATry(t *testing.T) {
	x := mustParse(t, house)
	for _, p := range append(somePrograms(), smallPrograms(5)...) {
		low, ok := impl.LowerWith(x, p)
		list, _ := readPieces(x, p)
		want := linesOf(lowered(list), 0)
		if ok != fits(want, 0, 0) || !ok && low != nil || ok && !same(low, want) {
			t.Fatalf("LowerWith(%v) = %v, %v, want %v", p, low, ok, want)
		}
		if !ok {
			continue
		}
		if slices.ContainsFunc(low, func(n impl.Line) bool { return n.Kind == impl.LnWith && n.B == 0 }) {
			t.Errorf("LowerWith(%v) = %v opens something", p, low)
		}
		before, after := impl.RunProgram(x, p), impl.RunProgram(x, low)
		if !endsAlike(before, after) || !same(lessAdded(before.Log), lessAdded(after.Log)) {
			t.Errorf("LowerWith(%v) = %v, which does %v", p, low, after)
		}
	}
}

func TestP65LowerWithOfWays(t *testing.T) {
	x := mustParse(t, house)
	for _, c := range []struct{ p, want string }{
		{"log 1", "log 1"},
		{"with 3; .log 1", "log 3; try; .log 1; finally; .log 3"},
		{"with 3 1; .log 1", "with 3 1; .log 1"},
		{"with 3; .with 4; ..log 1; log 2", "log 3; try; .log 4; .try; ..log 1; .finally; ..log 4; finally; .log 3; log 2"},
		{"with 3 1; .with 4; ..with 5 1; ...log 1", "with 3 1; .log 4; .try; ..with 5 1; ...log 1; .finally; ..log 4"},
		{"loop 2; .with 4; ..break", "loop 2; .log 4; .try; ..break; .finally; ..log 4"},
		{"with; .with; ..with; ...with; ....with; .....pass", "log; try; .log; .try; ..log; ..try; ...log; ...try; ....log; ....try; .....pass; ....finally; .....log; ...finally; ....log; ..finally; ...log; .finally; ..log; finally; .log"},
	} {
		if got, ok := impl.LowerWith(x, program(c.p)); !ok || !same(got, program(c.want)) {
			t.Errorf("LowerWith(%q) = %v, %v, want %q", c.p, got, ok, c.want)
		}
	}
	// Two lines for LnWith and its block are five then.
	for n := range 6 {
		for more := range impl.MaxLines - 2*n + 1 {
			p := append(program(strings.Repeat("with; .pass;", n)), slices.Repeat(program("pass"), more)...)
			if low, ok := impl.LowerWith(x, p); ok != (5*n+more <= impl.MaxLines) || ok && len(low) != 5*n+more || !ok && low != nil {
				t.Errorf("LowerWith(%v) = %v, %v", p, low, ok)
			}
		}
	}
}

func TestP112TwiceIsOneAndOnceMore(t *testing.T) {
	x := mustParse(t, house)
	count := 0
	for _, p := range somePrograms() {
		loop, ok1 := impl.InLoop(x, p, 2)
		then, ok2 := impl.ThenProgram(x, p, p)
		if ok2 != (2*len(p) <= impl.MaxLines) {
			t.Errorf("ThenProgram(%v) of the program and itself = .., %v", p, ok2)
		}
		if !ok1 || !ok2 {
			continue
		}
		count++
		if a, b := impl.RunProgram(x, loop), impl.RunProgram(x, then); !sameResult(a, b) {
			t.Errorf("%v twice does %v, and one after the other %v", p, a, b)
		}
	}
	if count < 1000 {
		t.Errorf("only %d of the programs are possible both ways", count)
	}
}

func TestP113WhatCatchesAllLetsNoFaultOut(t *testing.T) {
	x := mustParse(t, house)
	for _, p := range append(somePrograms(), smallPrograms(5)...) {
		w, ok := impl.WithExcept(x, p, 0, nil)
		if ok != fits(p, 3, 1) && len(p) > 0 {
			t.Errorf("WithExcept(%v, 0, nothing) = .., %v", p, ok)
		}
		if !ok {
			continue
		}
		got, want := impl.RunProgram(x, w), impl.RunProgram(x, p)
		if want.End == impl.EdRaise {
			want = impl.Result{Log: want.Log}
		}
		if got.End == impl.EdRaise || impl.FaultText(x, w) != "" || !sameResult(got, want) {
			t.Errorf("WithExcept(%v, 0, nothing) does %v", p, got)
		}
	}
}

// TestProgramsStay checks that no function of programs changes its arguments, and that no result shares memory with them or with another one.
func TestProgramsStay(t *testing.T) {
	x := mustParse(t, house)
	for _, s := range []string{"log 1", "raise 1 1", "try; .raise 1 1; finally; .raise 2 2", "with 1; .log 2", "log 1; try; .log 2; except 1; .log 3; except 3; .log 4", "loop 2; .log 1; .with 3 1; ..again"} {
		n := len(program(s))
		p := append(program(s), slices.Repeat(program("log 77"), 8)...)
		q := append(program("with 2; .raise 1 3"), slices.Repeat(program("log 88"), 8)...)
		keptP, keptQ, keptTree := slices.Clone(p), slices.Clone(q), slices.Clone(x.Classes)
		unchanged := func() bool { return same(p, keptP) && same(q, keptQ) && same(x.Classes, keptTree) }
		results := programsOf(x, p[:n], q[:2])
		run := impl.RunProgram(x, p[:n])
		log := impl.RunLog(x, p[:n])
		impl.FaultText(x, p[:n])
		impl.ValidProgram(x, p[:n])
		if !unchanged() {
			t.Fatalf("the arguments are now %v, %v", p, q)
		}
		var copies [][]impl.Line
		for _, r := range results {
			copies = append(copies, slices.Clone(r))
		}
		for i, r := range results {
			more := r[:cap(r)]
			for j := range more {
				more[j] = impl.Line{Depth: -44}
			}
			if !unchanged() || !slices.EqualFunc(results[i+1:], copies[i+1:], same[impl.Line]) {
				t.Fatalf("result %d of %q shares memory", i, s)
			}
		}
		clear(run.Log[:cap(run.Log)])
		clear(run.Heap.Faults[:cap(run.Heap.Faults)])
		want, _ := runOf(x, program(s))
		if !unchanged() || !same(log, want.Log) || !sameResult(impl.RunProgram(x, p[:n]), want) {
			t.Errorf("RunProgram of %q shares memory", s)
		}
	}
}

// programsOf returns programs that functions return for some arguments.
func programsOf(x impl.Tree, p, q []impl.Line) [][]impl.Line {
	then, _ := impl.ThenProgram(x, p, q)
	alone, _ := impl.ThenProgram(x, p, nil)
	behind, _ := impl.ThenProgram(x, nil, p)
	finally, _ := impl.WithFinally(x, p, q)
	except, _ := impl.WithExcept(x, q, 1, p)
	loop, _ := impl.InLoop(x, p, 2)
	low, _ := impl.LowerWith(x, p)
	other, _ := impl.LowerWith(x, q)
	return [][]impl.Line{then, alone, behind, finally, except, loop, low, other, impl.DropDead(x, p), impl.DropDead(x, q)}
}
