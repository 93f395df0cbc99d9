package tests

import (
	"slices"
	"strconv"
	"strings"

	"loop.example/faultcleanup/impl"
)

// kindWords are the words of the kinds of lines, by their numbers.
var kindWords = []string{"pass", "log", "raise", "again", "return", "break", "continue", "try", "except", "else", "finally", "with", "loop"}

// program returns the lines of a text: with a semicolon between two of them, a dot for each depth, a word, and up to two numbers: "try; .raise 1 5; finally; .return 4".
func program(s string) []impl.Line {
	var list []impl.Line
	for _, part := range strings.Split(s, ";") {
		part = strings.TrimSpace(part)
		if part == "" {
			continue
		}
		words := strings.Fields(strings.TrimLeft(part, "."))
		x := impl.Line{Depth: strings.Count(part, "."), Kind: slices.Index(kindWords, words[0])}
		if x.Kind < 0 {
			panic("no line: " + part)
		}
		x.A, x.B = twoNumbers(words[1:])
		list = append(list, x)
	}
	return list
}

// twoNumbers returns up to two numbers of words; 0 for those that are not there.
func twoNumbers(words []string) (a, b int) {
	for i, to := range []*int{&a, &b} {
		if i < len(words) {
			n, err := strconv.Atoi(words[i])
			if err != nil {
				panic("no number: " + words[i])
			}
			*to = n
		}
	}
	return a, b
}

// piece is a line with its block, and, for LnTry, with the other lines of its try; at is the number of the line, where that is asked for (piecesOf).
type piece struct {
	line  impl.Line
	at    int
	block []piece
	later []piece
}

// linesOf returns the lines of pieces at a depth.
func linesOf(list []piece, depth int) []impl.Line {
	var out []impl.Line
	for _, x := range list {
		x.line.Depth = depth
		out = append(out, x.line)
		out = append(out, linesOf(x.block, depth+1)...)
		out = append(out, linesOf(x.later, depth)...)
	}
	return out
}

// readPieces reads the pieces of a program; false if it is none.
func readPieces(x impl.Tree, p []impl.Line) ([]piece, bool) {
	if !impl.ValidTree(x) || len(p) > 24 {
		return nil, false
	}
	if len(p) == 0 {
		return nil, true
	}
	list, rest, ok := readBlock(x, p, 0, false)
	return list, ok && len(rest) == 0
}

// readBlock reads the pieces of one block at a depth, in a loop or not, and returns what is behind them.
func readBlock(x impl.Tree, p []impl.Line, depth int, loop bool) (list []piece, rest []impl.Line, ok bool) {
	for len(p) > 0 && p[0].Depth == depth {
		var one piece
		one, p, ok = readPiece(x, p, loop)
		if !ok {
			return nil, nil, false
		}
		list = append(list, one)
	}
	return list, p, len(list) > 0 && depth <= 5
}

// readPiece reads one piece.
func readPiece(x impl.Tree, p []impl.Line, loop bool) (one piece, rest []impl.Line, ok bool) {
	one.line = p[0]
	if !fineNumbers(len(x.Classes), p[0]) {
		return one, nil, false
	}
	switch p[0].Kind {
	case impl.LnPass, impl.LnLog, impl.LnRaise, impl.LnAgain, impl.LnReturn:
		return one, p[1:], true
	case impl.LnBreak, impl.LnContinue:
		return one, p[1:], loop
	case impl.LnWith:
		return readHead(x, p, loop)
	case impl.LnLoop:
		return readHead(x, p, true)
	case impl.LnTry:
		return readTry(x, p, loop)
	}
	return one, nil, false
}

// readHead reads a line with its block.
func readHead(x impl.Tree, p []impl.Line, loop bool) (one piece, rest []impl.Line, ok bool) {
	one.line = p[0]
	one.block, rest, ok = readBlock(x, p[1:], p[0].Depth+1, loop)
	return one, rest, ok
}

// readTry reads LnTry and the other lines of its try, all with their blocks.
func readTry(x impl.Tree, p []impl.Line, loop bool) (one piece, rest []impl.Line, ok bool) {
	one, rest, ok = readHead(x, p, loop)
	word := ""
	for ok && len(rest) > 0 && rest[0].Depth == p[0].Depth && rest[0].Kind >= impl.LnExcept && rest[0].Kind <= impl.LnFinally {
		if !fineNumbers(len(x.Classes), rest[0]) {
			return one, nil, false
		}
		word += string("xlf"[rest[0].Kind-impl.LnExcept])
		var part piece
		part, rest, ok = readHead(x, rest, loop)
		one.later = append(one.later, part)
	}
	excepts := len(word) - len(strings.TrimLeft(word, "x"))
	ends := []string{"", "l", "f", "lf"}
	if excepts == 0 {
		ends = []string{"f"}
	}
	return one, rest, ok && excepts <= 6 && slices.Contains(ends, word[excepts:])
}

// fineNumbers reports whether a line has the numbers that its kind asks for.
func fineNumbers(classes int, x impl.Line) bool {
	most := [][2]int{{0, 0}, {99, 0}, {classes - 1, 99}, {0, 0}, {99, 0}, {0, 0}, {0, 0}, {0, 0}, {classes - 1, 0}, {0, 0}, {0, 0}, {9, 1}, {3, 0}}
	if x.Kind < 0 || x.Kind >= len(most) {
		return false
	}
	return x.A >= 0 && x.A <= most[x.Kind][0] && x.B >= 0 && x.B <= most[x.Kind][1]
}

// thrown is a fault with the one that was handled when it was raised.
type thrown struct {
	class, code int
	context     *thrown
}

// outcome is how pieces end.
type outcome struct {
	end, value int
	fault      *thrown
}

// world is what pieces tell, the numbers of the lines that were run, and whether something was raised again that was not there.
type world struct {
	tree  impl.Tree
	log   []int
	ran   []int
	asked bool
}

// block does the pieces of a block, one after the other.
func (w *world) block(list []piece, handled *thrown) outcome {
	for _, x := range list {
		if o := w.piece(x, handled); o.end != impl.EdNext {
			return o
		}
	}
	return outcome{}
}

// piece does one piece.
func (w *world) piece(x piece, handled *thrown) outcome {
	n := x.line
	w.ran = append(w.ran, x.at)
	switch n.Kind {
	case impl.LnLog:
		w.log = append(w.log, n.A)
	case impl.LnRaise:
		return outcome{end: impl.EdRaise, fault: &thrown{n.A, n.B, handled}}
	case impl.LnAgain:
		if handled == nil {
			w.asked = true
			handled = &thrown{}
		}
		return outcome{end: impl.EdRaise, fault: handled}
	case impl.LnReturn:
		return outcome{end: impl.EdReturn, value: n.A}
	case impl.LnBreak:
		return outcome{end: impl.EdBreak}
	case impl.LnContinue:
		return outcome{end: impl.EdContinue}
	case impl.LnTry:
		return w.try(x, handled)
	case impl.LnWith:
		w.log = append(w.log, 100+n.A)
		o := w.block(x.block, handled)
		w.log = append(w.log, 200+n.A)
		if n.B == 0 || o.end != impl.EdRaise {
			return o
		}
	case impl.LnLoop:
		for range n.A {
			o := w.block(x.block, handled)
			if o.end == impl.EdBreak {
				break
			}
			if o.end == impl.EdReturn || o.end == impl.EdRaise {
				return o
			}
		}
	}
	return outcome{}
}

// try does the blocks of a try.
func (w *world) try(x piece, handled *thrown) outcome {
	o := w.block(x.block, handled)
	first := o
	done := false
	for _, part := range x.later {
		switch {
		case done:
		case part.line.Kind == impl.LnExcept && first.end == impl.EdRaise && isBelow(w.tree, first.fault.class, part.line.A):
			o, done = w.part(part, first.fault), true
		case part.line.Kind == impl.LnElse && first.end == impl.EdNext:
			o, done = w.part(part, handled), true
		}
		if part.line.Kind == impl.LnFinally {
			// The fault is nil where there is none.
			inside := handled
			if o.end == impl.EdRaise {
				inside = o.fault
			}
			if last := w.part(part, inside); last.end != impl.EdNext {
				o = last
			}
		}
	}
	return o
}

// part does the block of another line of a try than LnTry.
func (w *world) part(x piece, handled *thrown) outcome {
	w.ran = append(w.ran, x.at)
	return w.block(x.block, handled)
}

// runOf returns what a program that is one does, and whether it raises something again that is not there.
func runOf(x impl.Tree, p []impl.Line) (impl.Result, bool) {
	list, ok := readPieces(x, p)
	if !ok {
		panic("no program")
	}
	w := &world{tree: x}
	o := w.block(list, nil)
	return resultOf(w.log, o), w.asked
}

// resultOf returns what tells some numbers and ends with an outcome.
func resultOf(log []int, o outcome) impl.Result {
	r := impl.Result{Log: log, End: o.end, Value: o.value}
	for f := o.fault; f != nil; f = f.context {
		one := plain(f.class, f.code)
		r.Heap.Faults = append(r.Heap.Faults, one)
	}
	slices.Reverse(r.Heap.Faults)
	for i := range r.Heap.Faults {
		// The one that was handled is the one ahead, and the first one has none.
		r.Heap.Faults[i].Context = i - 1
		r.Value = i
	}
	return r
}

// asks reports whether a program raises something again that is not there.
func asks(x impl.Tree, p []impl.Line) bool {
	_, asked := runOf(x, p)
	return asked
}

// sameResult reports whether two results are the same.
func sameResult(a, b impl.Result) bool {
	return same(a.Log, b.Log) && a.End == b.End && a.Value == b.Value && same(a.Heap.Faults, b.Heap.Faults)
}

// endsAlike reports whether two results end alike, whatever they tell.
func endsAlike(a, b impl.Result) bool {
	a.Log, b.Log = nil, nil
	return sameResult(a, b)
}

// undropped returns pieces without LnExcept behind one of the same try that catches as much.
func undropped(x impl.Tree, list []piece) []piece {
	var out []piece
	for _, one := range list {
		var classes []int
		var later []piece
		for _, part := range one.later {
			if part.line.Kind == impl.LnExcept {
				if isCaught(x, classes, part.line.A) {
					continue
				}
				classes = append(classes, part.line.A)
			}
			later = append(later, part)
		}
		out = append(out, piece{line: one.line, block: undropped(x, one.block), later: undropped(x, later)})
	}
	return out
}

// lowered returns pieces in which LnWith with B 0 is LnLog and a try.
func lowered(list []piece) []piece {
	var out []piece
	for _, one := range list {
		one.block, one.later = lowered(one.block), lowered(one.later)
		if one.line.Kind != impl.LnWith || one.line.B != 0 {
			out = append(out, one)
			continue
		}
		log := piece{line: impl.Line{Kind: impl.LnLog, A: one.line.A}}
		last := piece{line: impl.Line{Kind: impl.LnFinally}, block: []piece{log}}
		out = append(out, log, piece{line: impl.Line{Kind: impl.LnTry}, block: one.block, later: []piece{last}})
	}
	return out
}

// enumerator lists pieces of few lines, and keeps what it has listed.
type enumerator struct {
	blocks map[[2]int][][]piece
}

// leaves returns all pieces of one line, in a loop (1) or not (0).
func (e *enumerator) leaves(loop int) []piece {
	list := program("log 1; raise 3; raise 2; again; return 1")
	if loop == 1 {
		list = append(list, program("break; continue")...)
	}
	var out []piece
	for _, n := range list {
		out = append(out, piece{line: n})
	}
	return out
}

// pieces returns all pieces of n lines.
func (e *enumerator) pieces(n, loop int) []piece {
	if n == 1 {
		return e.leaves(loop)
	}
	var out []piece
	for _, b := range e.all(n-1, loop) {
		out = append(out, piece{line: impl.Line{Kind: impl.LnWith}, block: b}, piece{line: impl.Line{Kind: impl.LnWith, B: 1}, block: b})
	}
	for _, b := range e.all(n-1, 1) {
		out = append(out, piece{line: impl.Line{Kind: impl.LnLoop, A: 2}, block: b})
	}
	for k := 1; k <= n-3; k++ {
		for _, b := range e.all(k, loop) {
			for _, later := range e.laters(n-1-k, loop) {
				out = append(out, piece{line: impl.Line{Kind: impl.LnTry}, block: b, later: later})
			}
		}
	}
	return out
}

// laters returns all lists of up to three lines behind the block of LnTry, with their blocks, of n lines in all.
func (e *enumerator) laters(n, loop int) [][]piece {
	var out [][]piece
	except, others, last := impl.Line{Kind: impl.LnExcept, A: 1}, impl.Line{Kind: impl.LnElse}, impl.Line{Kind: impl.LnFinally}
	root := impl.Line{Kind: impl.LnExcept}
	for _, heads := range [][]impl.Line{{except}, {root}, {last}, {except, root}, {except, others}, {except, last}, {root, last}, {except, others, last}} {
		out = append(out, e.withHeads(heads, n, loop)...)
	}
	return out
}

// withHeads returns all lists of the lines with blocks, of n lines in all.
func (e *enumerator) withHeads(heads []impl.Line, n, loop int) [][]piece {
	if len(heads) == 0 {
		if n == 0 {
			return [][]piece{nil}
		}
		return nil
	}
	var out [][]piece
	for k := 1; k < n; k++ {
		for _, rest := range e.withHeads(heads[1:], n-1-k, loop) {
			for _, b := range e.all(k, loop) {
				out = append(out, append([]piece{{line: heads[0], block: b}}, rest...))
			}
		}
	}
	return out
}

// all returns all blocks of n lines.
func (e *enumerator) all(n, loop int) [][]piece {
	if n == 0 {
		return [][]piece{nil}
	}
	if list, ok := e.blocks[[2]int{n, loop}]; ok {
		return list
	}
	var out [][]piece
	for k := 1; k <= n; k++ {
		for _, rest := range e.all(n-k, loop) {
			for _, one := range e.pieces(k, loop) {
				out = append(out, append([]piece{one}, rest...))
			}
		}
	}
	e.blocks[[2]int{n, loop}] = out
	return out
}

// numbered gives the lines of a program numbers of their own, where they are just told, so that no two tell the same.
func numbered(p []impl.Line) []impl.Line {
	for i := range p {
		switch p[i].Kind {
		case impl.LnLog, impl.LnReturn:
			p[i].A = 10 + i
		case impl.LnRaise:
			p[i].B = 10 + i
		case impl.LnWith:
			p[i].A = i % 10
		}
	}
	return p
}

// smallPrograms returns all programs of up to most lines of a few kinds, with classes of house.
func smallPrograms(most int) [][]impl.Line {
	e := &enumerator{blocks: map[[2]int][][]piece{}}
	var out [][]impl.Line
	for n := range most + 1 {
		for _, list := range e.all(n, 0) {
			out = append(out, numbered(linesOf(list, 0)))
		}
	}
	return out
}

// mixedLeaf returns a piece of one line, which jumps in about one of three cases.
func mixedLeaf(m *mixer, classes int, loop bool) piece {
	x := impl.Line{Kind: impl.LnLog, A: m.below(100)}
	switch m.below(18) {
	case 0, 1, 2:
		x = impl.Line{Kind: impl.LnRaise, A: m.below(classes), B: m.below(100)}
	case 3:
		x = impl.Line{Kind: impl.LnAgain}
	case 4:
		x = impl.Line{Kind: impl.LnReturn, A: m.below(100)}
	case 5, 6:
		if loop {
			x = impl.Line{Kind: impl.LnBreak + m.below(2)}
		}
	case 7:
		x = impl.Line{}
	}
	return piece{line: x}
}

// mixedBlock returns a block of n lines, which is not too deep at a depth.
func mixedBlock(m *mixer, n, depth, classes int, loop bool) []piece {
	var out []piece
	for n > 0 {
		k := 1
		if depth < impl.MaxNest {
			k = 1 + m.below(n)
		}
		out = append(out, mixedPiece(m, k, depth, classes, loop))
		n -= k
	}
	return out
}

// mixedPiece returns a piece of n lines at a depth.
func mixedPiece(m *mixer, n, depth, classes int, loop bool) piece {
	switch {
	case n == 1:
		return mixedLeaf(m, classes, loop)
	case n >= 4 && m.below(4) > 0:
		return mixedTry(m, n, depth, classes, loop)
	case m.below(3) > 0:
		return piece{line: impl.Line{Kind: impl.LnLoop, A: m.below(4)}, block: mixedBlock(m, n-1, depth+1, classes, true)}
	}
	return piece{line: impl.Line{Kind: impl.LnWith, A: m.below(10), B: m.below(2)}, block: mixedBlock(m, n-1, depth+1, classes, loop)}
}

// mixedTry returns a try of n lines at a depth, at least 4.
func mixedTry(m *mixer, n, depth, classes int, loop bool) piece {
	var heads []impl.Line
	for i := m.below(min(n/2, impl.MaxCatches+1)); i > 0; i-- {
		heads = append(heads, impl.Line{Kind: impl.LnExcept, A: m.below(classes)})
	}
	if len(heads) > 0 && 2*len(heads)+4 <= n && m.below(2) == 0 {
		heads = append(heads, impl.Line{Kind: impl.LnElse})
	}
	if len(heads) == 0 || 2*len(heads)+4 <= n && m.below(2) == 0 {
		heads = append(heads, impl.Line{Kind: impl.LnFinally})
	}
	spare := n - 2*(1+len(heads))
	block := func() []piece {
		more := m.below(spare + 1)
		spare -= more
		return mixedBlock(m, 1+more, depth+1, classes, loop)
	}
	one := piece{line: impl.Line{Kind: impl.LnTry}, block: block()}
	for i, x := range heads {
		part := piece{line: x, block: block()}
		if i == len(heads)-1 {
			part.block = append(part.block, mixedBlock(m, spare, depth+1, classes, loop)...)
		}
		one.later = append(one.later, part)
	}
	return one
}

// mixedProgram returns a program of n lines with classes of a tree of some classes.
func mixedProgram(m *mixer, n, classes int) []impl.Line {
	return linesOf(mixedBlock(m, n, 0, classes, false), 0)
}

// heated returns a program in which about half of the lines that go on raise faults, and about half of LnExcept catch all.
func heated(m *mixer, p []impl.Line) []impl.Line {
	for i := range p {
		switch p[i].Kind {
		case impl.LnPass, impl.LnLog:
			if m.below(2) == 0 {
				p[i] = impl.Line{Depth: p[i].Depth, Kind: impl.LnRaise, A: m.below(6), B: i}
			}
		case impl.LnExcept:
			p[i].A *= m.below(2)
		}
	}
	return p
}

// longPrograms are programs of the most lines, of the greatest depth, with the most LnExcept, with chains of many faults, and with more faults than a heap has.
func longPrograms() [][]impl.Line {
	var out [][]impl.Line
	for _, s := range []string{
		strings.Repeat("log 1;", 23) + "raise 5 99",
		"with 1; .with 2 1; ..with 3; ...with 4; ....with 5; .....raise 4 4",
		"loop 3; .loop 3; ..loop 3; ...loop 3; ....loop 3; .....log 7",
		"loop 3; .loop 3; ..loop 3; ...loop 3; ....with 0 1; .....raise 1 1; raise 2 2",
		"loop 3; .loop 3; ..loop 3; ...with 1 1; ....raise 1 1; ...try; ....raise 2 2; ...except 0; ....with 2 1; .....raise 3 3; raise 4 4",
		"try; .try; ..try; ...raise 0 1; ..finally; ...raise 1 2; .finally; ..try; ...raise 2 3; ..finally; ...raise 3 4; finally; .try; ..try; ...raise 4 5; ..finally; ...raise 5 6; .finally; ..try; ...raise 0 7; ..finally; ...raise 1 8",
		"try; .try; ..try; ...try; ....try; .....raise 1 1; ....finally; .....raise 2 2; ...finally; ....raise 3 3; ..finally; ...raise 4 4; .finally; ..raise 5 5; finally; .raise 0 6",
		"try; .raise 4 1; except 5; .log 1; except 3; .log 2; except 2; .log 3; except 5; .log 4; except 1; .again; except 4; .log 5; else; .log 6; finally; .log 7",
	} {
		out = append(out, program(s))
	}
	return out
}

// somePrograms returns all small programs of up to 4 lines, mixed ones of up to the most lines, half of them heated, and longPrograms, with classes of house.
func somePrograms() [][]impl.Line {
	m := mixer(7)
	list := smallPrograms(4)
	for i := range 4000 {
		list = append(list, mixedProgram(&m, 1+i%impl.MaxLines, 6), heated(&m, mixedProgram(&m, 9+i%(impl.MaxLines-8), 6)))
	}
	return append(list, longPrograms()...)
}

// fewPrograms returns all small programs of up to 2 lines, mixed ones, half of them heated, and longPrograms, with classes of house.
func fewPrograms() [][]impl.Line {
	m := mixer(8)
	list := smallPrograms(2)
	for i := range 60 {
		list = append(list, mixedProgram(&m, 3+i%11, 6), heated(&m, mixedProgram(&m, 4+i%10, 6)))
	}
	return append(list, longPrograms()...)
}

// everyTwoPrograms calls a function for many programs, two at a time.
func everyTwoPrograms(do func(p, q []impl.Line)) {
	few := fewPrograms()
	for _, p := range few {
		for _, q := range few {
			do(p, q)
		}
	}
}

// invalidPrograms returns lines that are no program with classes of house, each for one reason alone, by that reason.
func invalidPrograms() map[string][]impl.Line {
	out := map[string][]impl.Line{
		"too many lines":     program(strings.Repeat("pass;", impl.MaxLines+1)),
		"far too many lines": slices.Repeat(program("pass"), 100000),
		"too many excepts":   program("try; .pass; " + strings.Repeat("except 1; .pass; ", impl.MaxCatches+1)),
	}
	for _, s := range []string{
		".pass", "..pass", "pass; .pass", "log 1; .log 1", "with; ..pass", "with; .pass; ..pass", "loop 1; .with; ...pass",
		"with; .with; ..with; ...with; ....with; .....with; ......pass", "loop; .loop; ..loop; ...loop; ....loop; .....loop; ......pass", "try; .try; ..try; ...try; ....try; .....try; ......pass; .....finally; ......pass; ....finally; .....pass; ...finally; ....pass; ..finally; ...pass; .finally; ..pass; finally; .pass",
		"with", "loop 1", "try", "pass; with", "with; pass", "loop 1; pass", "with; .pass; with", "with; .with", "with; .loop 2; pass", "try; finally; .pass", "try; .pass; finally", "try; .pass; finally; pass", "try; .pass; except 1", "try; .pass; except 1; else; .pass", "try; .pass; except 1; .pass; else", "try; .with; finally; .pass",
		"try; .pass", "try; .pass; pass", "try; .pass; pass; finally; .pass", "try; .pass; try; .pass; finally; .pass", "try; .try; ..pass; finally; .pass", "try; .try; ..pass; .finally; ..pass", "with; .try; ..pass; finally; .pass", "try; .pass; with; .pass; finally; .pass",
		"except 1; .pass", "else; .pass", "finally; .pass", "pass; except 1; .pass", "pass; else; .pass", "pass; finally; .pass", "with; .pass; finally; .pass", "loop 1; .pass; else; .pass", "loop 1; .pass; except 1; .pass", "with; .except 1; ..pass", "try; .pass; finally; .finally; ..pass",
		"try; .pass; else; .pass", "try; .pass; else; .pass; finally; .pass", "try; .pass; else; .pass; except 1; .pass", "try; .pass; except 1; .pass; else; .pass; except 1; .pass", "try; .pass; except 1; .pass; else; .pass; else; .pass",
		"try; .pass; finally; .pass; except 1; .pass", "try; .pass; finally; .pass; else; .pass", "try; .pass; finally; .pass; finally; .pass", "try; .pass; except 1; .pass; finally; .pass; else; .pass", "try; .pass; except 1; .pass; finally; .pass; finally; .pass", "try; .pass; except 1; .pass; finally; .pass; except 1; .pass",
		"try; .pass; except 1; .pass; pass; except 2; .pass", "try; .pass; except 1; .pass; pass; finally; .pass", "try; .pass; finally; .pass; pass; finally; .pass",
		"break", "continue", "with; .break", "with; .continue", "try; .break; finally; .pass", "try; .pass; finally; .continue", "loop 1; .pass; break", "loop 1; .pass; continue", "loop 1; .pass; with; .break", "try; .loop 1; ..pass; finally; .break",
	} {
		out[s] = program(s)
	}
	for kind := range len(kindWords) {
		for _, n := range append([]int{-1, 6, 101}, far...) {
			for _, ab := range [][2]int{{n, 0}, {0, n}} {
				x := impl.Line{Kind: kind, A: ab[0], B: ab[1]}
				if !fineNumbers(6, x) {
					out[kindWords[kind]+" "+strconv.Itoa(x.A)+" "+strconv.Itoa(x.B)] = around(x)
				}
			}
		}
	}
	for _, n := range append([]int{-1, 13, 14}, far...) {
		out["kind "+strconv.Itoa(n)] = []impl.Line{{Kind: n}}
		out["kind "+strconv.Itoa(n)+" last"] = append(program("log 1"), impl.Line{Kind: n})
		out["kind "+strconv.Itoa(n)+" in a block"] = append(program("with"), impl.Line{Kind: n, Depth: 1})
		out["kind "+strconv.Itoa(n)+" with a block"] = append([]impl.Line{{Kind: n}}, program(".pass")...)
	}
	for _, n := range append([]int{-1, 6}, far...) {
		out["depth "+strconv.Itoa(n)] = []impl.Line{{Depth: n}}
		out["depth "+strconv.Itoa(n)+" last"] = append(program("log 1"), impl.Line{Depth: n})
		out["depth "+strconv.Itoa(n)+" in a block"] = append(program("with"), impl.Line{Depth: n})
	}
	return out
}

// around returns a program in which a line would be valid, but for its numbers.
func around(x impl.Line) []impl.Line {
	s := "log 1"
	switch x.Kind {
	case impl.LnBreak, impl.LnContinue:
		x.Depth = 1
		return append(program("loop 2; .log 1"), x)
	case impl.LnTry:
		return append([]impl.Line{x}, program(".pass; finally; .pass")...)
	case impl.LnExcept, impl.LnFinally:
		s = "try; .pass"
	case impl.LnElse:
		s = "try; .pass; except 1; .pass"
	case impl.LnWith, impl.LnLoop:
	default:
		return append(program(s), x)
	}
	return slices.Concat(program(s), []impl.Line{x}, program(".pass"))
}
