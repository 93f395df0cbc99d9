package tests

import (
	"slices"
	"testing"

	"loop.example/faultcleanup/impl"
)

// mustProgram returns the lines of a text that is a program.
func mustProgram(t *testing.T, x impl.Tree, s string) []impl.Line {
	t.Helper()
	p := program(s)
	if !impl.ValidProgram(x, p) {
		t.Fatalf("ValidProgram(%q) is false", s)
	}
	return p
}

// numberLines gives pieces the numbers of their lines, from n on, and returns the number behind them.
func numberLines(list []piece, n int) int {
	for i := range list {
		list[i].at = n
		n = numberLines(list[i].block, n+1)
		n = numberLines(list[i].later, n)
	}
	return n
}

// piecesOf returns the pieces of a program that is one, with the numbers of their lines.
func piecesOf(x impl.Tree, p []impl.Line) []piece {
	list, ok := readPieces(x, p)
	if !ok {
		panic("no program")
	}
	numberLines(list, 0)
	return list
}

// shell is a piece in whose block a line is, and, for one of a try, the piece of LnTry.
type shell struct{ part, try piece }

// spot is where a line is: the blocks around it, the innermost one first, and the lines of its try, if it is one of them.
type spot struct {
	shells []shell
	try    []int
}

// spotsOf returns the spots of the lines of pieces, by their numbers.
func spotsOf(list []piece) map[int]spot {
	spots := map[int]spot{}
	putSpots(spots, list, nil)
	return spots
}

// putSpots puts the spots of the lines of the pieces of a block.
func putSpots(spots map[int]spot, list []piece, shells []shell) {
	for _, one := range list {
		var try []int
		if one.line.Kind == impl.LnTry {
			try = append(try, one.at)
			for _, part := range one.later {
				try = append(try, part.at)
			}
		}
		for _, part := range append([]piece{one}, one.later...) {
			spots[part.at] = spot{shells: shells, try: try}
			putSpots(spots, part.block, append([]shell{{part, one}}, shells...))
		}
	}
}

// headsOf returns the lines of the blocks around a line.
func headsOf(shells []shell) []int {
	var out []int
	for _, s := range shells {
		out = append(out, s.part.at)
	}
	return out
}

// wayOf returns the lines at the end of the blocks around a line.
func wayOf(shells []shell) []int {
	var out []int
	for _, s := range shells {
		switch s.part.line.Kind {
		case impl.LnWith:
			out = append(out, s.part.at)
		case impl.LnTry, impl.LnExcept, impl.LnElse:
			for _, part := range s.try.later {
				if part.line.Kind == impl.LnFinally {
					out = append(out, part.at)
				}
			}
		}
	}
	return out
}

// stopOf returns the line that catches a class in one of the blocks around a line, and how many blocks are ahead of that one; -1 and all if none does.
func stopOf(x impl.Tree, shells []shell, a int) (catcher, ahead int) {
	for n, s := range shells {
		if s.part.line.Kind == impl.LnWith && s.part.line.B == 1 {
			return s.part.at, n
		}
		if s.part.line.Kind != impl.LnTry {
			continue
		}
		for _, part := range s.try.later {
			if part.line.Kind == impl.LnExcept && isBelow(x, a, part.line.A) {
				return part.at, n
			}
		}
	}
	return -1, len(shells)
}

// loopsAhead returns how many blocks around a line are ahead of that of the first loop; -1 if there is no loop.
func loopsAhead(shells []shell) int {
	return slices.IndexFunc(shells, func(s shell) bool { return s.part.line.Kind == impl.LnLoop })
}

// tableOf returns the ranges of pieces, those that begin later first.
func tableOf(list []piece) []impl.Range {
	out := rangesOf(list)
	slices.SortStableFunc(out, func(a, b impl.Range) int { return b.From - a.From })
	return out
}

// rangesOf returns the ranges of pieces.
func rangesOf(list []piece) []impl.Range {
	var out []impl.Range
	for _, one := range list {
		r := impl.Range{From: one.at + 1, To: one.at + 1 + len(linesOf(one.block, 0)), Target: one.at}
		if one.line.Kind == impl.LnWith && one.line.B == 1 {
			out = append(out, r)
		}
		for _, part := range one.later {
			if part.line.Kind == impl.LnExcept {
				r.Target, r.Class = part.at, part.line.A
				out = append(out, r)
			}
		}
		out = append(out, rangesOf(one.block)...)
		out = append(out, rangesOf(one.later)...)
	}
	return out
}

// isJump reports whether lines of a kind jump.
func isJump(kind int) bool {
	return slices.Contains([]int{impl.LnRaise, impl.LnAgain, impl.LnReturn, impl.LnBreak, impl.LnContinue}, kind)
}

// deadOf returns the lines of the pieces of a block that cannot be run, all of them for a block that is dead.
func deadOf(x impl.Tree, list []piece, dead bool) []int {
	var out []int
	for _, one := range list {
		if dead {
			out = append(out, one.at)
		}
		out = append(out, deadOf(x, one.block, dead || one.line.Kind == impl.LnLoop && one.line.A == 0)...)
		var classes []int
		for _, part := range one.later {
			partDead := dead
			if part.line.Kind == impl.LnExcept {
				partDead = dead || isCaught(x, classes, part.line.A)
				classes = append(classes, part.line.A)
			}
			if partDead {
				out = append(out, part.at)
			}
			out = append(out, deadOf(x, part.block, partDead)...)
		}
		dead = dead || isJump(one.line.Kind)
	}
	return out
}

// prunedPieces returns pieces without those that come behind one that jumps.
func prunedPieces(list []piece) []piece {
	var out []piece
	for _, one := range list {
		one.block = prunedPieces(one.block)
		// The other lines of a try do not jump, so that none of them is left out.
		one.later = prunedPieces(one.later)
		out = append(out, one)
		if isJump(one.line.Kind) {
			break
		}
	}
	return out
}

// ranOf returns the lines that a program runs, in order, each as often as it is run.
func ranOf(x impl.Tree, p []impl.Line) []int {
	w := &world{tree: x}
	w.block(piecesOf(x, p), nil)
	return w.ran
}

// firstJumpOf returns the first line that a program runs and that jumps; -1 if there is none.
func firstJumpOf(x impl.Tree, p []impl.Line) int {
	for _, i := range ranOf(x, p) {
		if isJump(p[i].Kind) {
			return i
		}
	}
	return -1
}

// blockOf returns the lines of the block of a line.
func blockOf(p []impl.Line, i int) []impl.Line {
	end := i + 1
	for end < len(p) && p[end].Depth > p[i].Depth {
		end++
	}
	return p[i+1 : end]
}

// calmed returns a program whose lines without blocks all tell numbers of their own, and whose loops are run at least once.
func calmed(p []impl.Line) []impl.Line {
	out := slices.Clone(p)
	for i, n := range p {
		switch {
		case n.Kind == impl.LnLoop:
			out[i].A = max(n.A, 1)
		case n.Kind < impl.LnTry:
			out[i] = impl.Line{Depth: n.Depth, Kind: impl.LnLog, A: 10 + i}
		}
	}
	return out
}

// tablePrograms returns somePrograms, mixed ones with loops of no times and many jumps, and programs for the edge cases of tables.
func tablePrograms() [][]impl.Line {
	list := somePrograms()
	m := mixer(12)
	for i := range 1000 {
		p := mixedProgram(&m, 12+i%13, 6)
		for j, n := range p {
			if n.Kind == impl.LnLoop && m.below(2) == 0 {
				p[j].A = 0
			}
			if n.Kind == impl.LnLog && m.below(4) == 0 {
				p[j] = impl.Line{Depth: n.Depth, Kind: impl.LnReturn, A: j}
			}
		}
		list = append(list, p)
	}
	for _, s := range edges {
		list = append(list, program(s))
	}
	return list
}

// edges are programs with blocks of last blocks, classes of several lines, loops of no times, and lines behind jumps.
var edges = []string{
	"try; .pass; finally; .try; ..log 1; .finally; ..try; ...log 2; ..finally; ...with 1; ....raise 1 1; log 5",
	"try; .with 1; ..pass; finally; .with 2 1; ..try; ...return 1; ..except 1; ...pass; ..finally; ...loop 2; ....break; ....pass",
	"try; .raise 3 1; except 3; .log 1; except 1; .log 2; except 3; .log 3; except 1; .log 4; except 0; .log 5; except 5; .log 6",
	"try; .try; ..raise 5 1; .except 1; ..raise 5 2; .except 1; ..raise 5 3; except 1; .raise 5 4; except 5; .raise 5 5",
	"loop; .raise 1 1; .log 1; log 2; raise 2 2; log 3",
	"loop; .loop 3; ..try; ...break; ..except 1; ...continue; ..log 1; .return 1; .pass; loop 3; .loop; ..return 2; .break; .log 7",
	"return 1; loop 2; .log 1; try; .pass; except 1; .pass; except 1; .pass; with 1; .again; .pass",
	"loop 2; .with 1; ..try; ...continue; ...with 2; ....break; ..finally; ...loop 1; ....with 3 1; .....break",
	"try; .again; .pass; except 0; .again; .pass; except 0; .again; .pass; else; .again; .pass; finally; .again; .pass; pass",
}
