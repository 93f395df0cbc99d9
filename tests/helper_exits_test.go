package tests

import (
	"slices"
	"strconv"
	"strings"

	"loop.example/faultcleanup/impl"
)

// exitWords are the words of the kinds of exits, by their numbers.
var exitWords = []string{"call", "tell", "catch", "raise"}

// exits returns the exits of a text: with a semicolon between two of them, a word, and one or two numbers: "call 1; raise 3 4".
func exits(s string) []impl.Exit {
	var list []impl.Exit
	for _, part := range strings.Split(s, ";") {
		words := strings.Fields(part)
		if len(words) == 0 {
			continue
		}
		x := impl.Exit{Kind: slices.Index(exitWords, words[0])}
		if x.Kind < 0 {
			panic("no exit: " + part)
		}
		x.A, x.B = twoNumbers(words[1:])
		list = append(list, x)
	}
	return list
}

// begun returns a start with a fault.
func begun(class, code int) impl.Start {
	return impl.Start{Has: true, Class: class, Code: code}
}

// startsOf returns a start without a fault, and one of each class of a tree.
func startsOf(x impl.Tree) []impl.Start {
	list := []impl.Start{{}}
	for a := range x.Classes {
		list = append(list, begun(a, 99-a))
	}
	return list
}

// firstFault returns the fault of a start; nil if it has none.
func firstFault(start impl.Start) *thrown {
	if !start.Has {
		return nil
	}
	return &thrown{class: start.Class, code: start.Code}
}

// leftOf does exits, the last one first, and returns what they tell, and the fault that comes out; nil if there is none.
func leftOf(x impl.Tree, list []impl.Exit, f *thrown) (log []int, out *thrown) {
	if len(list) == 0 {
		return nil, f
	}
	one, rest := list[len(list)-1], list[:len(list)-1]
	var told []int
	switch one.Kind {
	case impl.XtCall:
		told = []int{one.A}
	case impl.XtTell:
		if f != nil {
			told = []int{one.A}
		}
	case impl.XtCatch:
		if f != nil && isBelow(x, f.class, one.A) {
			f = nil
		}
	case impl.XtRaise:
		f = &thrown{class: one.A, code: one.B, context: f}
	}
	log, out = leftOf(x, rest, f)
	return append(told, log...), out
}

// closeOf returns what exits do with a start, both valid.
func closeOf(x impl.Tree, list []impl.Exit, start impl.Start) impl.Result {
	log, f := leftOf(x, list, firstFault(start))
	if f == nil {
		return resultOf(log, outcome{})
	}
	return resultOf(log, outcome{end: impl.EdRaise, fault: f})
}

// closeRunOf returns what a program and then exits do, both valid.
func closeRunOf(x impl.Tree, p []impl.Line, list []impl.Exit) impl.Result {
	run, _ := runOf(x, p)
	var start impl.Start
	if run.End == impl.EdRaise {
		f := run.Heap.Faults[run.Value]
		start = begun(f.Class, f.Code)
	}
	out := closeOf(x, list, start)
	log := slices.Concat(run.Log, out.Log)
	if run.End == impl.EdReturn && out.End == impl.EdNext {
		out = run
	}
	out.Log = log
	return out
}

// formOf returns the lines that do what exits do with a start, whether they are a program or not.
func formOf(list []impl.Exit, start impl.Start) []impl.Line {
	if len(list) == 0 {
		if start.Has {
			return []impl.Line{{Kind: impl.LnRaise, A: start.Class, B: start.Code}}
		}
		return program("pass")
	}
	out := append(program("try"), orPass(formOf(list[1:], start))...)
	a, b := strconv.Itoa(list[0].A), strconv.Itoa(list[0].B)
	last := []string{"finally; .log " + a, "except 0; .log " + a + "; .again", "except " + a + "; .pass", "finally; .raise " + a + " " + b}
	return append(out, program(last[list[0].Kind])...)
}

// numberedExits gives exits numbers of their own, where they are just told, and their faults codes of their own.
func numberedExits(list []impl.Exit) []impl.Exit {
	out := slices.Clone(list)
	for i := range out {
		switch out[i].Kind {
		case impl.XtCall, impl.XtTell:
			out[i].A = 10 + i
		case impl.XtRaise:
			out[i].B = 10 + i
		}
	}
	return out
}

// smallExits returns all lists of up to most exits of a few kinds, with classes of house.
func smallExits(most int) [][]impl.Exit {
	few := exits("call; tell; catch 0; catch 1; catch 3; catch 2; raise 0; raise 3; raise 2")
	var out [][]impl.Exit
	for _, picks := range listsOf(len(few), most) {
		var list []impl.Exit
		for _, k := range picks {
			list = append(list, few[k])
		}
		out = append(out, numberedExits(list))
	}
	return out
}

// mixedExits returns n exits with classes of a tree of some classes.
func mixedExits(m *mixer, n, classes int) []impl.Exit {
	var list []impl.Exit
	for range n {
		switch kind := m.below(4); kind {
		case impl.XtCall, impl.XtTell:
			list = append(list, impl.Exit{Kind: kind, A: m.below(100)})
		case impl.XtCatch:
			list = append(list, impl.Exit{Kind: kind, A: m.below(classes)})
		default:
			list = append(list, impl.Exit{Kind: kind, A: m.below(classes), B: m.below(100)})
		}
	}
	return list
}

// edgeExits are exits of which faults take the place of others, of the same class, or taken away already, and those of the greatest numbers.
var edgeExits = []string{
	"", "call", "tell", "catch", "raise", "call 99; tell 99", "raise 5 99",
	"raise; raise; raise; raise; raise; raise; raise; raise", "catch; catch; catch; catch; catch; catch; catch; catch",
	"call 1; call 2; call 3; call 4; call 5; call 6; call 7; call 8", "tell 1; tell 2; tell 3; tell 4; tell 5; tell 6; tell 7; tell 8",
	"raise 3; catch 3", "raise; catch", "raise 3; raise 3", "catch 3; raise 3 1", "catch 1; raise 3 1", "catch 3; raise 1 1", "catch 0; raise 2 2; catch 1; raise 4 4",
	"tell 1; catch 1; tell 2; raise 1 1; tell 3; catch 2; tell 4; raise 2 2", "catch 1; catch 2; catch 3; catch 4; catch 5; catch", "catch 1; catch 2; catch 3; catch 4; catch 5",
}

// someExits returns all lists of up to 3 exits of a few kinds, mixed ones of up to the most exits, and edgeExits, with classes of house.
func someExits() [][]impl.Exit {
	list := smallExits(3)
	m := mixer(21)
	for i := range 1500 {
		mixed := mixedExits(&m, 1+i%impl.MaxExits, 6)
		if i%2 == 0 {
			mixed = numberedExits(mixed)
		}
		list = append(list, mixed)
	}
	return append(list, edgeLists()...)
}

// fewExits returns all lists of up to 1 exit of a few kinds, some mixed ones, and edgeExits, with classes of house.
func fewExits() [][]impl.Exit {
	list := smallExits(1)
	m := mixer(22)
	for i := range 60 {
		list = append(list, numberedExits(mixedExits(&m, 2+i%(impl.MaxExits-1), 6)))
	}
	return append(list, edgeLists()...)
}

// edgeLists returns edgeExits as lists.
func edgeLists() [][]impl.Exit {
	var list [][]impl.Exit
	for _, s := range edgeExits {
		list = append(list, exits(s))
	}
	return list
}

// fineExit reports whether an exit is valid with some classes.
func fineExit(classes int, x impl.Exit) bool {
	most := [][2]int{{99, 0}, {99, 0}, {classes - 1, 0}, {classes - 1, 99}}
	return x.Kind >= 0 && x.Kind < len(most) && x.A >= 0 && x.A <= most[x.Kind][0] && x.B >= 0 && x.B <= most[x.Kind][1]
}

// badExits are exits that are not valid with classes of house, each for one reason alone.
func badExits() []impl.Exit {
	var list []impl.Exit
	for _, n := range append([]int{-1, 4, 5}, far...) {
		list = append(list, impl.Exit{Kind: n})
	}
	for kind := range exitWords {
		for _, n := range append([]int{-1, 1, 6, 99}, far...) {
			for _, x := range []impl.Exit{{Kind: kind, A: n}, {Kind: kind, B: n}} {
				if !fineExit(6, x) {
					list = append(list, x)
				}
			}
		}
	}
	return list
}

// invalidExits returns exits that are not valid with classes of house: one that is not valid alone, ahead of others, behind them or between them, and too many.
func invalidExits() [][]impl.Exit {
	list := [][]impl.Exit{slices.Repeat(exits("call 1"), impl.MaxExits+1), slices.Repeat(exits("raise 3 4"), impl.MaxExits+2), slices.Repeat(exits("catch"), 100000)}
	for _, x := range badExits() {
		for _, at := range [][2]string{{"", ""}, {"call 1", ""}, {"", "catch; tell 2"}, {"raise 3 4", "call 1"}} {
			list = append(list, slices.Concat(exits(at[0]), []impl.Exit{x}, exits(at[1])))
		}
	}
	return list
}

// badStarts returns starts that are not valid with classes of house.
func badStarts() []impl.Start {
	list := []impl.Start{{Class: 1}, {Code: 1}, {Class: 2, Code: 3}, {Class: -1}, {Code: -1}}
	for _, n := range append([]int{-1, 6, 7, 8, 99}, far...) {
		list = append(list, begun(n, 0), begun(n, 5))
	}
	for _, n := range append([]int{-1, 100, 101}, far...) {
		list = append(list, begun(0, n), begun(5, n))
	}
	return list
}
