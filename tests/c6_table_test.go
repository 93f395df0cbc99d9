package tests

import (
	"slices"
	"testing"

	"loop.example/faultcleanup/impl"
)

// everyLine calls a function for each line of many programs with classes of house.
func everyLine(x impl.Tree, do func(p []impl.Line, i int)) {
	for _, p := range tablePrograms() {
		for i := range p {
			do(p, i)
		}
	}
}

// begins reports whether a list begins with another one.
func begins(list, first []int) bool {
	return len(list) >= len(first) && same(list[:len(first)], first)
}

// TestWaysOfAllLines holds all functions that ask about a line against the blocks of the program.
func TestWaysOfAllLines(t *testing.T) {
	x := mustParse(t, house)
	for _, p := range tablePrograms() {
		spots := spotsOf(piecesOf(x, p))
		for i := range p {
			shells := spots[i].shells
			if got, want := impl.EnclosingOf(x, p, i), headsOf(shells); !same(got, want) {
				t.Fatalf("EnclosingOf(%v, %d) = %v, want %v", p, i, got, want)
			}
			if got := impl.TryOf(x, p, i); !same(got, spots[i].try) {
				t.Fatalf("TryOf(%v, %d) = %v, want %v", p, i, got, spots[i].try)
			}
			if got, want := impl.WayOut(x, p, i), wayOf(shells); !same(got, want) {
				t.Fatalf("WayOut(%v, %d) = %v, want %v", p, i, got, want)
			}
			loop, way := -1, []int(nil)
			if n := loopsAhead(shells); n >= 0 {
				loop, way = shells[n].part.at, wayOf(shells[:n])
			}
			if got := impl.LoopOf(x, p, i); got != loop {
				t.Fatalf("LoopOf(%v, %d) = %d, want %d", p, i, got, loop)
			}
			if got := impl.WayToLoop(x, p, i); !same(got, way) {
				t.Fatalf("WayToLoop(%v, %d) = %v, want %v", p, i, got, way)
			}
			for a := range x.Classes {
				catcher, ahead := stopOf(x, shells, a)
				if got := impl.CatcherOf(x, p, i, a); got != catcher {
					t.Fatalf("CatcherOf(%v, %d, %d) = %d, want %d", p, i, a, got, catcher)
				}
				if got, want := impl.WayOfFault(x, p, i, a), wayOf(shells[:ahead]); !same(got, want) {
					t.Fatalf("WayOfFault(%v, %d, %d) = %v, want %v", p, i, a, got, want)
				}
			}
		}
	}
}

// TestTablesOfAllPrograms holds all functions that ask about a whole program against its blocks, and against what it runs.
func TestTablesOfAllPrograms(t *testing.T) {
	x := mustParse(t, house)
	for _, p := range append(tablePrograms(), manyExcepts(x)...) {
		list := piecesOf(x, p)
		if got, want := impl.TableOf(x, p), tableOf(list); !same(got, want) {
			t.Fatalf("TableOf(%v) = %v, want %v", p, got, want)
		}
		if got, want := impl.FirstJump(x, p), firstJumpOf(x, p); got != want {
			t.Fatalf("FirstJump(%v) = %d, want %d", p, got, want)
		}
		if got, want := impl.DeadLines(x, p), deadOf(x, list, false); !same(got, want) {
			t.Fatalf("DeadLines(%v) = %v, want %v", p, got, want)
		}
		if got, want := impl.PruneLines(x, p), linesOf(prunedPieces(list), 0); !same(got, want) {
			t.Fatalf("PruneLines(%v) = %v, want %v", p, got, want)
		}
	}
}

// TestTablesOfTrees takes programs with classes of trees of all shapes.
func TestTablesOfTrees(t *testing.T) {
	m := mixer(13)
	for _, x := range someTrees() {
		for n := 1; n <= impl.MaxLines; n++ {
			p := mixedProgram(&m, n, len(x.Classes))
			spots := spotsOf(piecesOf(x, p))
			table := impl.TableOf(x, p)
			for i := range p {
				for a := range x.Classes {
					catcher, ahead := stopOf(x, spots[i].shells, a)
					if impl.CatcherOf(x, p, i, a) != catcher || impl.LookUp(x, table, i, a) != catcher || !same(impl.WayOfFault(x, p, i, a), wayOf(spots[i].shells[:ahead])) {
						t.Fatalf("CatcherOf(%v, %v, %d, %d) is not %d", x, p, i, a, catcher)
					}
				}
				if impl.CatcherOf(x, p, i, len(x.Classes)) != -1 || impl.WayOfFault(x, p, i, len(x.Classes)) != nil {
					t.Fatalf("CatcherOf(%v, %v, %d) of no class is a line", x, p, i)
				}
			}
			if got, want := impl.DeadLines(x, p), deadOf(x, piecesOf(x, p), false); !same(got, want) {
				t.Fatalf("DeadLines(%v, %v) = %v, want %v", x, p, got, want)
			}
		}
	}
}

// waysOut are lines of programs with what is around them: the blocks, the loop, the way out, and that to the loop.
var waysOut = []struct {
	p          string
	i          int
	heads      []int
	loop       int
	out, there []int
}{
	{"pass", 0, nil, -1, nil, nil},
	{"with 1; .pass; pass", 0, nil, -1, nil, nil},
	{"with 1; .pass; pass", 1, []int{0}, -1, []int{0}, nil},
	{"with 1; .pass; pass", 2, nil, -1, nil, nil},
	{"with 1; .with 2 1; ..pass", 2, []int{1, 0}, -1, []int{1, 0}, nil},
	{"loop 2; .pass", 0, nil, -1, nil, nil},
	{"loop 2; .pass", 1, []int{0}, 0, nil, nil},
	{"loop; .loop 3; ..break", 2, []int{1, 0}, 1, nil, nil},
	{"with 1; .loop 3; ..with 2; ...break", 3, []int{2, 1, 0}, 1, []int{2, 0}, []int{2}},
	{"with 1; .loop 3; ..with 2; ...break", 2, []int{1, 0}, 1, []int{0}, nil},
	{"with 1; .loop 3; ..with 2; ...break", 1, []int{0}, -1, []int{0}, nil},
	// The last block is at the end of all blocks of its try, but not of itself.
	{"try; .pass; except 1; .pass; else; .pass; finally; .pass", 1, []int{0}, -1, []int{6}, nil},
	{"try; .pass; except 1; .pass; else; .pass; finally; .pass", 3, []int{2}, -1, []int{6}, nil},
	{"try; .pass; except 1; .pass; else; .pass; finally; .pass", 5, []int{4}, -1, []int{6}, nil},
	{"try; .pass; except 1; .pass; else; .pass; finally; .pass", 7, []int{6}, -1, nil, nil},
	{"try; .pass; except 1; .pass; else; .pass; finally; .pass", 6, nil, -1, nil, nil},
	{"try; .pass; except 1; .pass; else; .pass", 1, []int{0}, -1, nil, nil},
	{"try; .pass; except 1; .pass; else; .pass", 3, []int{2}, -1, nil, nil},
	{"try; .pass; except 1; .pass; else; .pass", 5, []int{4}, -1, nil, nil},
	{"try; .pass; finally; .try; ..pass; .finally; ..pass", 4, []int{3, 2}, -1, []int{5}, nil},
	{"try; .pass; finally; .try; ..pass; .finally; ..pass", 6, []int{5, 2}, -1, nil, nil},
	{"try; .try; ..pass; .finally; ..pass; finally; .pass", 2, []int{1, 0}, -1, []int{3, 5}, nil},
	{"try; .try; ..pass; .finally; ..pass; finally; .pass", 4, []int{3, 0}, -1, []int{5}, nil},
	{"loop 2; .try; ..pass; .finally; ..with 3; ...continue", 5, []int{4, 3, 0}, 0, []int{4}, []int{4}},
	{"try; .loop 2; ..try; ...break; ..except 1; ...with; ....break; ..finally; ...pass; finally; .pass", 6, []int{5, 4, 1, 0}, 1, []int{5, 7, 9}, []int{5, 7}},
	// The last block of another try is at the end of nothing here.
	{"try; .pass; except 1; .pass; try; .pass; finally; .pass", 1, []int{0}, -1, nil, nil},
	{"try; .try; ..pass; .finally; ..pass; except 1; .pass", 2, []int{1, 0}, -1, []int{3}, nil},
	{"try; .try; ..pass; .finally; ..pass; except 1; .pass", 6, []int{5}, -1, nil, nil},
}

func TestWaysOutOfLines(t *testing.T) {
	x := mustParse(t, house)
	for _, c := range waysOut {
		p := mustProgram(t, x, c.p)
		if got := impl.EnclosingOf(x, p, c.i); !same(got, c.heads) {
			t.Errorf("EnclosingOf(%q, %d) = %v", c.p, c.i, got)
		}
		if got := impl.LoopOf(x, p, c.i); got != c.loop {
			t.Errorf("LoopOf(%q, %d) = %d", c.p, c.i, got)
		}
		if got := impl.WayOut(x, p, c.i); !same(got, c.out) {
			t.Errorf("WayOut(%q, %d) = %v", c.p, c.i, got)
		}
		if got := impl.WayToLoop(x, p, c.i); !same(got, c.there) {
			t.Errorf("WayToLoop(%q, %d) = %v", c.p, c.i, got)
		}
	}
}

// catches are lines of programs with classes, what catches them, and the way there.
var catches = []struct {
	p    string
	i, a int
	want int
	way  []int
}{
	{"raise 1 1", 0, 1, -1, nil},
	{"with 1; .raise 1 1", 1, 1, -1, []int{0}},
	{"with 1 1; .raise 1 1", 1, 1, 0, nil},
	{"with 1 1; .raise 1 1", 0, 1, -1, nil},
	{"with 1; .with 2 1; ..with 3; ...raise 1 1", 3, 5, 1, []int{2}},
	// The class, or one above it, but none below it.
	{"try; .raise 3 1; except 3; .pass", 1, 3, 2, nil},
	{"try; .raise 3 1; except 3; .pass", 1, 5, 2, nil},
	{"try; .raise 3 1; except 3; .pass", 1, 1, -1, nil},
	{"try; .raise 3 1; except 3; .pass", 1, 4, -1, nil},
	{"try; .raise 3 1; except 3; .pass", 1, 0, -1, nil},
	{"try; .raise 3 1; except 0; .pass", 1, 0, 2, nil},
	// The first one of several lines, and of several blocks.
	{"try; .pass; except 3; .pass; except 1; .pass; except 3; .pass; except 0; .pass", 1, 3, 2, nil},
	{"try; .pass; except 3; .pass; except 1; .pass; except 3; .pass; except 0; .pass", 1, 4, 4, nil},
	{"try; .pass; except 3; .pass; except 1; .pass; except 3; .pass; except 0; .pass", 1, 2, 8, nil},
	{"try; .try; ..pass; .except 3; ..pass; except 3; .pass; except 1; .pass", 2, 5, 3, nil},
	{"try; .try; ..pass; .except 3; ..pass; except 3; .pass; except 1; .pass", 2, 4, 7, nil},
	{"try; .try; ..pass; .except 3; ..pass; except 3; .pass; except 1; .pass", 4, 3, 5, nil},
	{"try; .try; ..pass; .except 3; ..pass; .finally; ..pass; except 3; .pass", 4, 3, 7, []int{5}},
	{"try; .try; ..pass; .except 3; ..pass; .finally; ..pass; except 3; .pass; finally; .pass", 2, 2, -1, []int{5, 9}},
	// Only the block of LnTry is tried, and its own last block is not on the way to LnExcept.
	{"try; .pass; except 1; .pass; except 0; .pass; else; .pass; finally; .pass", 1, 1, 2, nil},
	{"try; .pass; except 1; .pass; except 0; .pass; else; .pass; finally; .pass", 3, 1, -1, []int{8}},
	{"try; .pass; except 1; .pass; except 0; .pass; else; .pass; finally; .pass", 5, 1, -1, []int{8}},
	{"try; .pass; except 1; .pass; except 0; .pass; else; .pass; finally; .pass", 7, 1, -1, []int{8}},
	{"try; .pass; except 1; .pass; except 0; .pass; else; .pass; finally; .pass", 9, 1, -1, nil},
	{"try; .pass; except 1; .pass; except 0; .pass; else; .pass; finally; .pass", 2, 1, -1, nil},
	{"with 4 1; .try; ..pass; .except 1; ..pass; .finally; ..pass", 4, 1, 0, []int{5}},
	{"with 4 1; .try; ..pass; .except 1; ..pass; .finally; ..pass", 6, 1, 0, nil},
	{"with 4 1; .try; ..pass; .except 1; ..pass; .finally; ..pass", 3, 1, 0, nil},
	// Loops let faults out.
	{"try; .loop 2; ..with 5; ...raise 1 1; except 1; .pass", 3, 1, 4, []int{2}},
	{"loop; .loop 2; ..raise 1 1", 2, 1, -1, nil},
}

func TestCatchersOfLines(t *testing.T) {
	x := mustParse(t, house)
	for _, c := range catches {
		p := mustProgram(t, x, c.p)
		if got := impl.CatcherOf(x, p, c.i, c.a); got != c.want {
			t.Errorf("CatcherOf(%q, %d, %d) = %d", c.p, c.i, c.a, got)
		}
		if got := impl.WayOfFault(x, p, c.i, c.a); !same(got, c.way) {
			t.Errorf("WayOfFault(%q, %d, %d) = %v", c.p, c.i, c.a, got)
		}
		if got := impl.LookUp(x, impl.TableOf(x, p), c.i, c.a); got != c.want {
			t.Errorf("LookUp(%q, %d, %d) = %d", c.p, c.i, c.a, got)
		}
	}
}

func TestTablesOfWays(t *testing.T) {
	x := mustParse(t, house)
	for s, want := range map[string][]impl.Range{
		"":                                nil,
		"with 1; .pass":                   nil,
		"loop 2; .pass":                   nil,
		"try; .pass; finally; .pass":      nil,
		"with 1 1; .pass; .pass":          {{From: 1, To: 3, Target: 0, Class: 0}},
		"pass; with 1 1; .pass; .pass":    {{From: 2, To: 4, Target: 1, Class: 0}},
		"with 1 1; .with 2 1; ..pass":     {{From: 2, To: 3, Target: 1}, {From: 1, To: 3, Target: 0}},
		"with 1 1; .pass; with 2 1; .log": {{From: 3, To: 4, Target: 2}, {From: 1, To: 2, Target: 0}},
		"try; .pass; except 4; .pass; except 1; .pass; except 4; .pass; else; .pass; finally; .pass": {{From: 1, To: 2, Target: 2, Class: 4}, {From: 1, To: 2, Target: 4, Class: 1}, {From: 1, To: 2, Target: 6, Class: 4}},
		"try; .try; ..pass; .except 2; ..pass; except 1; .with 3 1; ..pass; except 5; .pass":         {{From: 7, To: 8, Target: 6}, {From: 2, To: 3, Target: 3, Class: 2}, {From: 1, To: 5, Target: 5, Class: 1}, {From: 1, To: 5, Target: 8, Class: 5}},
	} {
		if got := impl.TableOf(x, mustProgram(t, x, s)); !same(got, want) {
			t.Errorf("TableOf(%q) = %v", s, got)
		}
	}
}

// jumpsAndDead are programs with their first jump, their dead lines, and what they are without lines behind jumps.
var jumpsAndDead = []struct {
	p      string
	jump   int
	dead   []int
	pruned string
}{
	{"", -1, nil, ""},
	{"log 1", -1, nil, "log 1"},
	{"log 1; return 2; log 3; with 1; .pass", 1, []int{2, 3, 4}, "log 1; return 2"},
	{"again; pass", 0, []int{1}, "again"},
	{"raise 1 1; raise 2 2; return 3", 0, []int{1, 2}, "raise 1 1"},
	{"with 1; .raise 1 1; .log 1; log 2", 1, []int{2}, "with 1; .raise 1 1; log 2"},
	// Only the same block ends: what is behind a block that always jumps is not dead.
	{"with 1; .return 1; log 2", 1, nil, "with 1; .return 1; log 2"},
	{"try; .return 1; except 1; .pass; else; .log 2; finally; .return 3; log 4", 1, nil, "try; .return 1; except 1; .pass; else; .log 2; finally; .return 3; log 4"},
	{"try; .pass; finally; .return 3; log 4", 3, nil, "try; .pass; finally; .return 3; log 4"},
	// Whole tries behind jumps.
	{"return 1; try; .log 1; except 1; .log 2; else; .log 3; finally; .log 4", 0, []int{1, 2, 3, 4, 5, 6, 7, 8}, "return 1"},
	{"loop 2; .break; .with 1; ..continue; ..pass; .log 1; log 2", 1, []int{2, 3, 4, 5}, "loop 2; .break; log 2"},
	{"loop 2; .with 1; ..continue; ..pass; .log 1; .break; .log 2", 2, []int{3, 6}, "loop 2; .with 1; ..continue; .log 1; .break"},
	// Loops of no times.
	{"loop; .return 1", -1, []int{1}, "loop; .return 1"},
	{"loop; .return 1; .log 1; log 2; again", 4, []int{1, 2}, "loop; .return 1; log 2; again"},
	{"loop; .loop 2; ..break; ..log 1; .log 2; loop 1; .loop; ..continue; .break; .pass", 8, []int{1, 2, 3, 4, 7, 9}, "loop; .loop 2; ..break; .log 2; loop 1; .loop; ..continue; .break"},
	{"loop; .try; ..pass; .except 1; ..return 1; .finally; ..pass; return 2", 7, []int{1, 2, 3, 4, 5, 6}, "loop; .try; ..pass; .except 1; ..return 1; .finally; ..pass; return 2"},
	{"loop 3; .pass", -1, nil, "loop 3; .pass"},
	// LnExcept waits for a fault; one that never catches is dead.
	{"try; .pass; except 1; .return 1; log 2", -1, nil, "try; .pass; except 1; .return 1; log 2"},
	{"try; .pass; except 1; .return 1; else; .return 2; finally; .return 3", 5, nil, "try; .pass; except 1; .return 1; else; .return 2; finally; .return 3"},
	{"try; .log 1; except 1; .return 1; finally; .return 3", 5, nil, "try; .log 1; except 1; .return 1; finally; .return 3"},
	{"try; .pass; except 1; .log 1; except 3; .with; ..return 2; ..log 3; except 0; .log 4; except 2; .log 5; finally; .again", 13, []int{4, 5, 6, 7, 10, 11}, "try; .pass; except 1; .log 1; except 3; .with; ..return 2; except 0; .log 4; except 2; .log 5; finally; .again"},
	{"try; .raise 1 1; except 3; .log 1; except 1; .log 2; except 5; .log 3", 1, []int{6, 7}, "try; .raise 1 1; except 3; .log 1; except 1; .log 2; except 5; .log 3"},
	// Blocks of last blocks.
	{"try; .pass; finally; .try; ..pass; .finally; ..with 1; ...again; ...log 1; ..log 2; .log 3", 7, []int{8}, "try; .pass; finally; .try; ..pass; .finally; ..with 1; ...again; ..log 2; .log 3"},
}

func TestJumpsAndDeadLinesOfPrograms(t *testing.T) {
	x := mustParse(t, house)
	for _, c := range jumpsAndDead {
		p := mustProgram(t, x, c.p)
		if got := impl.FirstJump(x, p); got != c.jump {
			t.Errorf("FirstJump(%q) = %d", c.p, got)
		}
		if got := impl.DeadLines(x, p); !same(got, c.dead) {
			t.Errorf("DeadLines(%q) = %v", c.p, got)
		}
		if got := impl.PruneLines(x, p); !same(got, program(c.pruned)) {
			t.Errorf("PruneLines(%q) = %v", c.p, got)
		}
	}
}

func TestP66BlocksLieInBlocks(t *testing.T) {
	x := mustParse(t, house)
	everyLine(x, func(p []impl.Line, i int) {
		heads := impl.EnclosingOf(x, p, i)
		if len(heads) != p[i].Depth {
			t.Fatalf("EnclosingOf(%v, %d) = %v", p, i, heads)
		}
		behind := i
		for n, head := range heads {
			if head < 0 || head >= behind || p[head].Depth != p[i].Depth-1-n || p[head].Kind < impl.LnTry {
				t.Fatalf("EnclosingOf(%v, %d) = %v", p, i, heads)
			}
			behind = head
		}
	})
}

func TestP67LinesOfATryBelongTogether(t *testing.T) {
	x := mustParse(t, house)
	everyLine(x, func(p []impl.Line, i int) {
		lines := impl.TryOf(x, p, i)
		if isPart := p[i].Kind >= impl.LnTry && p[i].Kind <= impl.LnFinally; isPart != (len(lines) > 0) {
			t.Fatalf("TryOf(%v, %d) = %v", p, i, lines)
		}
		if len(lines) == 0 {
			return
		}
		if p[lines[0]].Kind != impl.LnTry || !slices.Contains(lines, i) || len(lines) < 2 {
			t.Fatalf("TryOf(%v, %d) = %v", p, i, lines)
		}
		for n, j := range lines {
			if n > 0 && (j <= lines[n-1] || p[j].Kind <= impl.LnTry || p[j].Kind > impl.LnFinally) || p[j].Depth != p[i].Depth || !same(impl.TryOf(x, p, j), lines) {
				t.Fatalf("TryOf(%v, %d) = %v, and of %d it is %v", p, i, lines, j, impl.TryOf(x, p, j))
			}
		}
	})
}

func TestP68LoopsEnclose(t *testing.T) {
	x := mustParse(t, house)
	everyLine(x, func(p []impl.Line, i int) {
		loop := impl.LoopOf(x, p, i)
		if loop < 0 {
			if loop != -1 || p[i].Kind == impl.LnBreak || p[i].Kind == impl.LnContinue {
				t.Fatalf("LoopOf(%v, %d) = %d", p, i, loop)
			}
			return
		}
		if !slices.Contains(impl.EnclosingOf(x, p, i), loop) || p[loop].Kind != impl.LnLoop {
			t.Fatalf("LoopOf(%v, %d) = %d", p, i, loop)
		}
	})
}

func TestP69OnTheWayOutThereAreEndsOfBlocks(t *testing.T) {
	x := mustParse(t, house)
	everyLine(x, func(p []impl.Line, i int) {
		way := impl.WayOut(x, p, i)
		if len(way) > p[i].Depth {
			t.Fatalf("WayOut(%v, %d) = %v", p, i, way)
		}
		for n, end := range way {
			opens := p[end].Kind == impl.LnWith && end < i
			if !opens && (p[end].Kind != impl.LnFinally || end <= i) || slices.Contains(way[:n], end) {
				t.Fatalf("WayOut(%v, %d) = %v", p, i, way)
			}
		}
	})
}

func TestP70TheWayToTheLoopIsTheFirstPartOfTheWayOut(t *testing.T) {
	x := mustParse(t, house)
	everyLine(x, func(p []impl.Line, i int) {
		way, loop := impl.WayToLoop(x, p, i), impl.LoopOf(x, p, i)
		if !begins(impl.WayOut(x, p, i), way) || loop < 0 && way != nil {
			t.Fatalf("WayToLoop(%v, %d) = %v", p, i, way)
		}
		for _, end := range way {
			if p[end].Depth <= p[loop].Depth {
				t.Fatalf("WayToLoop(%v, %d) = %v", p, i, way)
			}
		}
		// All the rest is at the ends of blocks outside.
		for _, end := range impl.WayOut(x, p, i)[len(way):] {
			if loop >= 0 && p[end].Depth >= p[loop].Depth {
				t.Fatalf("WayToLoop(%v, %d) = %v", p, i, way)
			}
		}
	})
}

// lateness tells how late a line catches what comes from another one: how many blocks are left ahead, and which line of the try it is.
func lateness(x impl.Tree, p []impl.Line, i, catcher int) []int {
	head := catcher
	if p[catcher].Kind == impl.LnExcept {
		head = impl.TryOf(x, p, catcher)[0]
	}
	return []int{slices.Index(impl.EnclosingOf(x, p, i), head), catcher}
}

func TestP71CatchersEnclose(t *testing.T) {
	x := mustParse(t, house)
	everyLine(x, func(p []impl.Line, i int) {
		for a := range x.Classes {
			catcher := impl.CatcherOf(x, p, i, a)
			if catcher < 0 {
				continue
			}
			excepts := p[catcher].Kind == impl.LnExcept && isBelow(x, a, p[catcher].A)
			if !excepts && (p[catcher].Kind != impl.LnWith || p[catcher].B != 1) {
				t.Fatalf("CatcherOf(%v, %d, %d) = %d", p, i, a, catcher)
			}
			late := lateness(x, p, i, catcher)
			if late[0] < 0 {
				t.Fatalf("CatcherOf(%v, %d, %d) = %d, which does not enclose", p, i, a, catcher)
			}
			for _, b := range impl.BelowOf(x, a) {
				other := impl.CatcherOf(x, p, i, b)
				if other < 0 || slices.Compare(lateness(x, p, i, other), late) > 0 {
					t.Fatalf("CatcherOf(%v, %d, %d) = %d, but of %d it is %d", p, i, a, catcher, b, other)
				}
			}
		}
	})
}

func TestP72TheWayOfAFaultIsTheFirstPartOfTheWayOut(t *testing.T) {
	x := mustParse(t, house)
	everyLine(x, func(p []impl.Line, i int) {
		out := impl.WayOut(x, p, i)
		for a := range x.Classes {
			way, catcher := impl.WayOfFault(x, p, i, a), impl.CatcherOf(x, p, i, a)
			if !begins(out, way) || catcher < 0 && len(way) != len(out) {
				t.Fatalf("WayOfFault(%v, %d, %d) = %v, and WayOut is %v", p, i, a, way, out)
			}
			for _, end := range way {
				if catcher >= 0 && p[end].Depth <= p[catcher].Depth {
					t.Fatalf("WayOfFault(%v, %d, %d) = %v, but %d catches", p, i, a, way, catcher)
				}
			}
		}
	})
}

func TestP73TablesTellWhatCatches(t *testing.T) {
	x := mustParse(t, house)
	for _, p := range append(tablePrograms(), manyExcepts(x)...) {
		table := impl.TableOf(x, p)
		for i := range p {
			for a := range x.Classes {
				if got, want := impl.LookUp(x, table, i, a), impl.CatcherOf(x, p, i, a); got != want {
					t.Fatalf("LookUp in TableOf(%v) of %d and %d = %d, want %d", p, i, a, got, want)
				}
			}
		}
	}
}

func TestP74RangesLieInEachOtherOrApart(t *testing.T) {
	x := mustParse(t, house)
	for _, p := range append(tablePrograms(), manyExcepts(x)...) {
		table := impl.TableOf(x, p)
		for n, r := range table {
			if r.From < 1 || r.To <= r.From || r.To > len(p) || r.Target < 0 || r.Target >= len(p) {
				t.Fatalf("TableOf(%v) = %v", p, table)
			}
			for _, later := range table[n+1:] {
				apart := r.To <= later.From || later.To <= r.From
				inside := later.From <= r.From && r.To <= later.To
				if !apart && !inside || r.From < later.From {
					t.Fatalf("TableOf(%v) = %v", p, table)
				}
			}
		}
	}
}

// mixedRanges returns ranges that may be looked up, of all lengths.
func mixedRanges(m *mixer, n, classes int) []impl.Range {
	var list []impl.Range
	for range n {
		from := m.below(impl.MaxLines + 1)
		list = append(list, impl.Range{From: from, To: from + m.below(impl.MaxLines+1-from), Target: m.below(impl.MaxLines), Class: m.below(classes)})
	}
	return list
}

func TestP75WhatIsLookedUpHasARange(t *testing.T) {
	m := mixer(14)
	for _, x := range someTrees() {
		for n := range impl.MaxLines + 1 {
			list := mixedRanges(&m, n, len(x.Classes))
			for i := -1; i <= impl.MaxLines; i++ {
				for a := range x.Classes {
					has := func(r impl.Range) bool { return i >= r.From && i < r.To && isBelow(x, a, r.Class) }
					want := -1
					if n := slices.IndexFunc(list, has); n >= 0 {
						want = list[n].Target
					}
					if got := impl.LookUp(x, list, i, a); got != want {
						t.Fatalf("LookUp(%v, %d, %d) = %d, want %d", list, i, a, got, want)
					}
				}
			}
		}
	}
}

func TestLookUpAtTheEndsOfRanges(t *testing.T) {
	x := mustParse(t, house)
	list := []impl.Range{{From: 3, To: 3, Target: 9}, {From: 24, To: 24, Target: 8}, {From: 2, To: 5, Target: 7, Class: 3}, {From: 4, To: 24, Target: 23, Class: 1}, {From: 0, To: 1, Target: 0, Class: 2}}
	for _, c := range [][3]int{{3, 3, 7}, {3, 5, 7}, {2, 3, 7}, {1, 3, -1}, {4, 3, 7}, {5, 3, 23}, {3, 1, -1}, {4, 1, 23}, {4, 4, 23}, {3, 4, -1}, {23, 1, 23}, {24, 1, -1}, {23, 0, -1}, {0, 2, 0}, {1, 2, -1}, {-1, 2, -1}, {0, 0, -1}} {
		if got := impl.LookUp(x, list, c[0], c[1]); got != c[2] {
			t.Errorf("LookUp(%d, %d) = %d, want %d", c[0], c[1], got, c[2])
		}
	}
	for _, n := range far {
		if got := impl.LookUp(x, []impl.Range{{To: 24}}, n, 1); got != -1 {
			t.Errorf("LookUp(%d, 1) = %d", n, got)
		}
	}
	for _, a := range outside {
		if got := impl.LookUp(x, []impl.Range{{To: 24}}, 3, a); got != -1 {
			t.Errorf("LookUp(3, %d) = %d", a, got)
		}
	}
}

// TestLookUpInInvalidRanges puts a range that is not valid ahead of others, and behind them, where it would not be asked.
func TestLookUpInInvalidRanges(t *testing.T) {
	x := mustParse(t, house)
	fine := impl.Range{From: 0, To: 24, Target: 5}
	if impl.LookUp(x, slices.Repeat([]impl.Range{fine}, 24), 7, 1) != 5 || impl.LookUp(x, nil, 7, 1) != -1 {
		t.Error("LookUp in valid ranges")
	}
	bad := []impl.Range{{From: -1, To: 24}, {From: 4, To: 3}, {From: 24, To: 23}, {From: 25, To: 25}, {From: 25, To: 24}, {From: 1, To: 25}, {From: 0, To: -1}, {To: 3, Target: -1}, {To: 3, Target: 24}, {From: 24, To: 24, Target: 24}}
	for _, n := range far {
		bad = append(bad, impl.Range{From: n, To: 24}, impl.Range{To: n}, impl.Range{From: n, To: n}, impl.Range{Target: n})
	}
	for _, a := range outside {
		bad = append(bad, impl.Range{To: 24, Class: a})
	}
	for _, r := range bad {
		for _, list := range [][]impl.Range{{r}, {fine, r}, {r, fine}, {fine, fine, r, fine}} {
			if got := impl.LookUp(x, list, 7, 1); got != -1 {
				t.Errorf("LookUp(%v, 7, 1) = %d", list, got)
			}
		}
	}
	for _, n := range []int{25, 26, 100000} {
		if got := impl.LookUp(x, slices.Repeat([]impl.Range{fine}, n), 7, 1); got != -1 {
			t.Errorf("LookUp in %d ranges = %d", n, got)
		}
	}
	for reason, y := range invalidTrees() {
		if got := impl.LookUp(y, []impl.Range{fine}, 7, 0); got != -1 {
			t.Errorf("LookUp = %d: %s", got, reason)
		}
	}
}

func TestP76WithoutJumpsProgramsEnd(t *testing.T) {
	x := mustParse(t, house)
	none := 0
	for _, p := range append(tablePrograms(), smallPrograms(5)...) {
		jump := impl.FirstJump(x, p)
		if jump < 0 {
			none++
			if end := impl.RunProgram(x, p).End; end != impl.EdNext || jump != -1 {
				t.Fatalf("FirstJump(%v) = %d, but it ends with %d", p, jump, end)
			}
			continue
		}
		if !isJump(p[jump].Kind) || slices.Contains(impl.DeadLines(x, p), jump) {
			t.Fatalf("FirstJump(%v) = %d", p, jump)
		}
		if want := firstJumpOf(x, p); jump != want {
			t.Fatalf("FirstJump(%v) = %d, want %d", p, jump, want)
		}
	}
	if none < 100 {
		t.Errorf("only %d of the programs run no jump", none)
	}
}

// isCalm reports whether the last blocks of a way have no lines that jump.
func isCalm(p []impl.Line, way []int) bool {
	for _, end := range way {
		if p[end].Kind != impl.LnFinally {
			continue
		}
		if slices.ContainsFunc(blockOf(p, end), func(n impl.Line) bool { return isJump(n.Kind) }) {
			return false
		}
	}
	return true
}

func TestP77WhatNobodyCatchesComesOut(t *testing.T) {
	x := mustParse(t, house)
	count := 0
	for _, p := range append(tablePrograms(), smallPrograms(5)...) {
		i := impl.FirstJump(x, p)
		if i < 0 || p[i].Kind != impl.LnRaise && p[i].Kind != impl.LnAgain {
			continue
		}
		a := p[i].A
		if impl.CatcherOf(x, p, i, a) >= 0 || !isCalm(p, impl.WayOfFault(x, p, i, a)) {
			continue
		}
		if p[i].Depth > 0 {
			count++
		}
		r := impl.RunProgram(x, p)
		if r.End != impl.EdRaise || !same(r.Heap.Faults, []impl.Fault{plain(a, p[i].B)}) {
			t.Fatalf("RunProgram(%v) = %v, but FirstJump is %d, and nothing catches", p, r, i)
		}
	}
	if count < 100 {
		t.Errorf("only %d of the programs raise a fault that nothing catches in a block", count)
	}
}

func TestP78WhatReturnsEndsAll(t *testing.T) {
	x := mustParse(t, house)
	count := 0
	for _, p := range append(tablePrograms(), smallPrograms(5)...) {
		i := impl.FirstJump(x, p)
		if i < 0 || p[i].Kind != impl.LnReturn || !isCalm(p, impl.WayOut(x, p, i)) {
			continue
		}
		if len(impl.WayOut(x, p, i)) > 0 {
			count++
		}
		r := impl.RunProgram(x, p)
		if r.End != impl.EdReturn || r.Value != p[i].A {
			t.Fatalf("RunProgram(%v) = %v, but FirstJump is %d", p, r, i)
		}
	}
	if count < 100 {
		t.Errorf("only %d of the programs return through ends of blocks", count)
	}
}

// toldAt returns what is told at the ends of blocks of a way, and, if a line catches behind it, there.
func toldAt(x impl.Tree, p []impl.Line, way []int, catcher int) []int {
	var log []int
	if catcher >= 0 {
		way = append(slices.Clone(way), catcher)
	}
	for _, end := range way {
		if p[end].Kind == impl.LnWith {
			log = append(log, impl.LogClose+p[end].A)
			continue
		}
		var block []impl.Line
		for _, n := range blockOf(p, end) {
			n.Depth -= p[end].Depth + 1
			block = append(block, n)
		}
		log = append(log, impl.RunLog(x, block)...)
	}
	return log
}

// with returns a program with another line in the place of one, as deep.
func with(p []impl.Line, i int, n impl.Line) []impl.Line {
	out := slices.Clone(p)
	n.Depth = p[i].Depth
	out[i] = n
	return out
}

// reaching returns a calm program with faults in it for each LnExcept around a line, so that the line is run, if that is possible, and what is told up to there.
func reaching(x impl.Tree, p []impl.Line, i int) (q []impl.Line, log []int, ok bool) {
	q = slices.Clone(p)
	for _, head := range impl.EnclosingOf(x, p, i) {
		if p[head].Kind != impl.LnExcept {
			continue
		}
		first := impl.TryOf(x, p, head)[0] + 1
		for p[first].Kind != impl.LnLog {
			first++
		}
		q = with(q, first, impl.Line{Kind: impl.LnRaise, A: p[head].A, B: 98})
	}
	// No line of a calm program tells this number.
	log = impl.RunLog(x, with(q, i, impl.Line{Kind: impl.LnLog, A: 99}))
	n := slices.Index(log, 99)
	if n < 0 {
		return nil, nil, false
	}
	return q, log[:n], true
}

// TestWaysAreRun puts jumps into programs without any others, and checks that they tell what is at the ends of blocks on their way.
func TestWaysAreRun(t *testing.T) {
	x := mustParse(t, house)
	m := mixer(15)
	handled := 0
	for n := range 1500 {
		p := calmed(mixedProgram(&m, 6+n%19, 6))
		for i, line := range p {
			if line.Kind != impl.LnLog {
				continue
			}
			q, log, ok := reaching(x, p, i)
			if !ok {
				continue
			}
			if !same(p, q) {
				handled++
			}
			checkWays(t, x, q, i, log)
		}
	}
	if handled < 100 {
		t.Errorf("only %d of the lines are in a block of LnExcept", handled)
	}
}

// checkWays checks what is told if a line that is run, and behind which there is no jump, returns, raises, or leaves its loop.
func checkWays(t *testing.T, x impl.Tree, p []impl.Line, i int, log []int) {
	t.Helper()
	r := impl.RunProgram(x, with(p, i, impl.Line{Kind: impl.LnReturn, A: 50}))
	if want := slices.Concat(log, toldAt(x, p, impl.WayOut(x, p, i), -1)); !same(r.Log, want) || r.End != impl.EdReturn || r.Value != 50 {
		t.Fatalf("%v with a return in line %d does %v, but WayOut is %v", p, i, r, impl.WayOut(x, p, i))
	}
	if loop := impl.LoopOf(x, p, i); loop >= 0 {
		r = impl.RunProgram(x, with(p, i, impl.Line{Kind: impl.LnBreak}))
		if want := slices.Concat(log, toldAt(x, p, impl.WayToLoop(x, p, i), -1)); !begins(r.Log, want) {
			t.Fatalf("%v with a break in line %d does %v, but WayToLoop is %v", p, i, r, impl.WayToLoop(x, p, i))
		}
	}
	for a := range x.Classes {
		r = impl.RunProgram(x, with(p, i, impl.Line{Kind: impl.LnRaise, A: a, B: 97}))
		catcher, way := impl.CatcherOf(x, p, i, a), impl.WayOfFault(x, p, i, a)
		want := slices.Concat(log, toldAt(x, p, way, catcher))
		isOut := r.End == impl.EdRaise && r.Heap.Faults[r.Value].Class == a && r.Heap.Faults[r.Value].Code == 97
		if !begins(r.Log, want) || catcher < 0 && (len(r.Log) != len(want) || !isOut) {
			t.Fatalf("%v with a raise of %d in line %d does %v, but CatcherOf is %d, and WayOfFault is %v", p, a, i, r, catcher, way)
		}
	}
}

func TestP79DeadLinesMeanNothing(t *testing.T) {
	x := mustParse(t, house)
	count := 0
	for _, p := range append(tablePrograms(), manyExcepts(x)...) {
		dead := impl.DeadLines(x, p)
		q := slices.Clone(p)
		for _, i := range dead {
			switch q[i].Kind {
			case impl.LnLog, impl.LnReturn:
				q[i].A = 99 - q[i].A
			case impl.LnWith:
				q[i].A = 9 - q[i].A
			case impl.LnRaise:
				q[i].B = 99 - q[i].B
			}
		}
		if !same(p, q) {
			count++
		}
		if a, b := impl.RunProgram(x, p), impl.RunProgram(x, q); !sameResult(a, b) {
			t.Fatalf("%v does %v, but with the dead lines %v changed %v", p, a, dead, b)
		}
		ran := ranOf(x, p)
		if slices.ContainsFunc(dead, func(i int) bool { return slices.Contains(ran, i) }) {
			t.Fatalf("DeadLines(%v) = %v, but it runs %v", p, dead, ran)
		}
	}
	if count < 1000 {
		t.Errorf("only %d of the programs have dead lines that tell something", count)
	}
}

func TestP80WhatComesBehindJumpsMeansNothing(t *testing.T) {
	x := mustParse(t, house)
	fewer := 0
	for _, p := range append(append(tablePrograms(), manyExcepts(x)...), smallPrograms(5)...) {
		q := impl.PruneLines(x, p)
		if !impl.ValidProgram(x, q) || !sameResult(impl.RunProgram(x, q), impl.RunProgram(x, p)) || !same(impl.PruneLines(x, q), q) {
			t.Fatalf("PruneLines(%v) = %v", p, q)
		}
		if len(impl.DeadLines(x, q)) > len(impl.DeadLines(x, p)) || len(p)-len(q) > len(impl.DeadLines(x, p)) {
			t.Fatalf("PruneLines(%v) = %v has the dead lines %v", p, q, impl.DeadLines(x, q))
		}
		for i, n := range q {
			if isJump(n.Kind) && i+1 < len(q) && q[i+1].Depth == n.Depth && q[i+1].Kind <= impl.LnTry {
				t.Fatalf("PruneLines(%v) = %v has a line behind one that jumps", p, q)
			}
		}
		if len(q) < len(p) {
			fewer++
		}
	}
	if fewer < 1000 {
		t.Errorf("only %d of the programs have lines behind jumps", fewer)
	}
}

func TestP107PruningAndDroppingGoInEitherOrder(t *testing.T) {
	x := mustParse(t, house)
	both := 0
	for _, p := range append(tablePrograms(), manyExcepts(x)...) {
		dropped, pruned := impl.DropDead(x, p), impl.PruneLines(x, p)
		a, b := impl.PruneLines(x, dropped), impl.DropDead(x, pruned)
		if !same(a, b) || !sameResult(impl.RunProgram(x, a), impl.RunProgram(x, p)) {
			t.Fatalf("PruneLines of DropDead(%v) = %v, but DropDead of PruneLines is %v", p, a, b)
		}
		if len(dropped) < len(p) && len(pruned) < len(p) {
			both++
		}
	}
	if both < 100 {
		t.Errorf("only %d of the programs can be both pruned and dropped", both)
	}
}

func TestP109WaysOutGoOnFromTheBlockOutside(t *testing.T) {
	x := mustParse(t, house)
	everyLine(x, func(p []impl.Line, i int) {
		way, heads := impl.WayOut(x, p, i), impl.EnclosingOf(x, p, i)
		if len(heads) == 0 {
			if len(way) > 0 {
				t.Fatalf("WayOut(%v, %d) = %v", p, i, way)
			}
			return
		}
		rest := impl.WayOut(x, p, heads[0])
		more := len(way) - len(rest)
		if more < 0 || more > 1 || !same(way[more:], rest) {
			t.Fatalf("WayOut(%v, %d) = %v, but from %d it is %v", p, i, way, heads[0], rest)
		}
	})
}

func TestP110WhatIsNotCaughtInABlockIsCaughtOutside(t *testing.T) {
	x := mustParse(t, house)
	inside := 0
	everyLine(x, func(p []impl.Line, i int) {
		heads := impl.EnclosingOf(x, p, i)
		for a := range x.Classes {
			catcher := impl.CatcherOf(x, p, i, a)
			if len(heads) == 0 {
				if catcher != -1 {
					t.Fatalf("CatcherOf(%v, %d, %d) = %d", p, i, a, catcher)
				}
				continue
			}
			head := heads[0]
			if catcher >= 0 && (catcher == head || slices.Contains(impl.TryOf(x, p, head), catcher)) {
				inside++
				if p[head].Kind != impl.LnTry && p[head].Kind != impl.LnWith {
					t.Fatalf("CatcherOf(%v, %d, %d) = %d, but that is not tried", p, i, a, catcher)
				}
				continue
			}
			if outer := impl.CatcherOf(x, p, head, a); outer != catcher {
				t.Fatalf("CatcherOf(%v, %d, %d) = %d, but from %d it is %d", p, i, a, catcher, head, outer)
			}
		}
	})
	if inside < 1000 {
		t.Errorf("only %d faults are caught right outside", inside)
	}
}

// checkNoLine checks what each function returns for a line that the program does not have, or lines that are no program.
func checkNoLine(t *testing.T, reason string, x impl.Tree, p []impl.Line, i int) {
	t.Helper()
	if impl.EnclosingOf(x, p, i) != nil || impl.TryOf(x, p, i) != nil || impl.WayOut(x, p, i) != nil || impl.WayToLoop(x, p, i) != nil {
		t.Errorf("the line %d has blocks around it: %s", i, reason)
	}
	if n := impl.LoopOf(x, p, i); n != -1 {
		t.Errorf("LoopOf(%d) = %d: %s", i, n, reason)
	}
	for _, a := range []int{0, 1, -1} {
		if n := impl.CatcherOf(x, p, i, a); n != -1 || impl.WayOfFault(x, p, i, a) != nil {
			t.Errorf("CatcherOf(%d, %d) = %d: %s", i, a, n, reason)
		}
	}
}

// checkNoTable checks what each function returns if the lines p are no program, or the tree is not valid.
func checkNoTable(t *testing.T, reason string, x impl.Tree, p []impl.Line) {
	t.Helper()
	for i := range min(len(p), 30) {
		checkNoLine(t, reason, x, p, i)
	}
	for _, i := range append([]int{-1, len(p)}, far...) {
		checkNoLine(t, reason, x, p, i)
	}
	if impl.TableOf(x, p) != nil || impl.DeadLines(x, p) != nil || impl.PruneLines(x, p) != nil {
		t.Errorf("TableOf, DeadLines or PruneLines has something: %s", reason)
	}
	if n := impl.FirstJump(x, p); n != -1 {
		t.Errorf("FirstJump = %d: %s", n, reason)
	}
}

func TestTablesOfInvalidPrograms(t *testing.T) {
	x := mustParse(t, house)
	for reason, p := range invalidPrograms() {
		checkNoTable(t, reason, x, p)
	}
	for _, s := range edges {
		// The line at the end is no line, but all others are as they were.
		checkNoTable(t, "no kind behind "+s, x, append(program(s), impl.Line{Kind: 13}))
		checkNoTable(t, "too deep behind "+s, x, append(program(s), impl.Line{Depth: 6}))
	}
	for reason, y := range invalidTrees() {
		for _, s := range []string{"", "with 1 1; .raise 0 1; .pass", "try; .again; .pass; except 0; .pass; except 0; .pass; finally; .loop; ..return 1"} {
			checkNoTable(t, reason, y, program(s))
		}
	}
}

func TestLinesThatAreNotThere(t *testing.T) {
	x := mustParse(t, house)
	for _, p := range append(fewPrograms(), nil) {
		for _, i := range append([]int{-1, len(p), len(p) + 1, 24, 25}, far...) {
			if i < 0 || i >= len(p) {
				checkNoLine(t, "no such line", x, p, i)
			}
		}
	}
}

func TestFaultsOfNoClass(t *testing.T) {
	x := mustParse(t, house)
	for _, s := range append(edges, "with 1 1; .with 2; ..pass", "try; .try; ..pass; .except 0; ..pass; .finally; ..pass; except 5; .pass; finally; .pass") {
		p := mustProgram(t, x, s)
		for i := range p {
			for _, a := range append([]int{100}, outside...) {
				if n := impl.CatcherOf(x, p, i, a); n != -1 || impl.WayOfFault(x, p, i, a) != nil {
					t.Errorf("CatcherOf(%q, %d, %d) = %d, and WayOfFault is %v", s, i, a, n, impl.WayOfFault(x, p, i, a))
				}
			}
		}
	}
}

// TestTablesStay checks that no function of tables changes its arguments, and that no result shares memory with them or with another one.
func TestTablesStay(t *testing.T) {
	x := mustParse(t, house)
	for _, s := range append(edges, "with 1 1; .log 1; .with 2; ..raise 1 1", "log 1; log 2") {
		n := len(mustProgram(t, x, s))
		p := append(program(s), slices.Repeat(program("log 77"), 8)...)
		keptP, keptTree := slices.Clone(p), slices.Clone(x.Classes)
		table := append(impl.TableOf(x, p[:n]), impl.Range{}, impl.Range{To: 9})
		keptTable := slices.Clone(table)
		pruned := impl.PruneLines(x, p[:n])
		for i := range n {
			for _, f := range []func() []int{
				func() []int { return impl.EnclosingOf(x, p[:n], i) }, func() []int { return impl.TryOf(x, p[:n], i) },
				func() []int { return impl.WayOut(x, p[:n], i) }, func() []int { return impl.WayToLoop(x, p[:n], i) },
				func() []int { return impl.WayOfFault(x, p[:n], i, 3) }, func() []int { return impl.DeadLines(x, p[:n]) },
			} {
				a, b := f(), f()
				kept := slices.Clone(b)
				clear(a[:cap(a)])
				if !same(b, kept) || !same(f(), kept) {
					t.Fatalf("two results for %q and line %d share memory", s, i)
				}
			}
			impl.LoopOf(x, p[:n], i)
			impl.CatcherOf(x, p[:n], i, 3)
			impl.LookUp(x, table, i, 3)
		}
		impl.FirstJump(x, p[:n])
		more := pruned[:cap(pruned)]
		for i := range more {
			more[i] = impl.Line{Depth: -44}
		}
		if !same(p, keptP) || !same(table, keptTable) || !same(x.Classes, keptTree) {
			t.Fatalf("the arguments are now %v, %v", p, table)
		}
		first := impl.TableOf(x, p[:n])
		clear(first[:cap(first)])
		if !same(impl.TableOf(x, p[:n]), table[:len(table)-2]) {
			t.Fatalf("TableOf(%q) shares memory", s)
		}
	}
}
