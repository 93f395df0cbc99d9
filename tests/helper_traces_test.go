package tests

import (
	"regexp"
	"slices"
	"strconv"
	"strings"

	"loop.example/faultcleanup/impl"
)

// frames returns the frames of a text of names and lines, one after the other: "main 1 f 3 f 3".
func frames(s string) []impl.Frame {
	var list []impl.Frame
	words := strings.Fields(s)
	for i := 0; i+1 < len(words); i += 2 {
		line, err := strconv.Atoi(words[i+1])
		if err != nil {
			panic("no line: " + words[i+1])
		}
		list = append(list, impl.Frame{Func: words[i], Line: line})
	}
	return list
}

// run returns n equal frames.
func run(name string, line, n int) []impl.Frame {
	return slices.Repeat([]impl.Frame{{Func: name, Line: line}}, n)
}

// step returns n frames of one function, in the lines from 1 on.
func step(name string, n int) []impl.Frame {
	var list []impl.Frame
	for i := range n {
		list = append(list, impl.Frame{Func: name, Line: i + 1})
	}
	return list
}

// smallTraces returns all traces of up to most frames of two functions, one of which has two lines.
func smallTraces(most int) [][]impl.Frame {
	kinds := frames("f 1 f 2 g 1")
	var list [][]impl.Frame
	for _, picks := range listsOf(len(kinds), most) {
		var x []impl.Frame
		for _, k := range picks {
			x = append(x, kinds[k])
		}
		list = append(list, x)
	}
	return list
}

// mixedTrace returns a trace of n frames, of which about one of few is not the one ahead of it again.
func mixedTrace(m *mixer, n, few int) []impl.Frame {
	names := []string{"f", "g", "ff", "main", "az", "letter", "zzzzzz"}
	lines := []int{1, 2, 9, 10, 99, 100, 999}
	var list []impl.Frame
	for i := range n {
		f := impl.Frame{Func: names[m.below(len(names))], Line: lines[m.below(len(lines))]}
		if i > 0 && m.below(few) > 0 {
			f = list[i-1]
		}
		list = append(list, f)
	}
	return list
}

// longTraces returns traces of the most frames: all equal, all of one function, all different, runs, and two in turn.
func longTraces() [][]impl.Frame {
	return [][]impl.Frame{
		run("f", 1, impl.MaxFrames),
		run("letter", 999, impl.MaxFrames),
		step("f", impl.MaxFrames),
		frames("a 1 b 2 c 3 d 4 e 5 f 6 g 7 h 8 i 9 j 10 k 11 l 12"),
		slices.Concat(run("f", 1, 6), run("f", 2, 6)),
		slices.Concat(run("f", 1, 1), run("g", 1, 10), run("f", 1, 1)),
		slices.Concat(run("f", 1, 11), run("g", 1, 1)),
		slices.Repeat(frames("f 1 g 1"), impl.MaxFrames/2),
		slices.Repeat(frames("f 1 f 2 f 2"), impl.MaxFrames/3),
	}
}

// someTraces returns all small traces of up to 5 frames, mixed ones, and longTraces.
func someTraces() [][]impl.Frame {
	m := mixer(5)
	list := smallTraces(5)
	for i := range 300 {
		list = append(list, mixedTrace(&m, 1+i%impl.MaxFrames, 1+i/impl.MaxFrames%4))
	}
	return append(list, longTraces()...)
}

// fewTraces returns all small traces of up to 3 frames, some mixed ones, and longTraces.
func fewTraces() [][]impl.Frame {
	m := mixer(6)
	list := smallTraces(3)
	for i := range 36 {
		list = append(list, mixedTrace(&m, 1+i%impl.MaxFrames, 1+i/impl.MaxFrames))
	}
	return append(list, longTraces()...)
}

// everyTwoTraces calls a function for many traces, two at a time: small ones, few ones, and each of these with a part of it put ahead of another one.
func everyTwoTraces(do func(a, b []impl.Frame)) {
	small := smallTraces(4)
	for _, a := range small {
		for _, b := range small {
			do(a, b)
		}
	}
	few := fewTraces()
	for _, a := range few {
		for i, b := range few {
			do(a, b)
			both := slices.Concat(a[:i%(len(a)+1)], b)
			both = both[:min(len(both), impl.MaxFrames)]
			do(a, both)
			do(both, a)
		}
	}
}

// headOf walks along two traces from the outermost frame on, up to the first one that differs in the function or in the line.
func headOf(a, b []impl.Frame) int {
	for i := range a {
		if i >= len(b) || a[i].Func != b[i].Func || a[i].Line != b[i].Line {
			return i
		}
	}
	return len(a)
}

// rowsOf returns the rows of frames, taking one row after the other from the outer end.
func rowsOf(list []impl.Frame) []impl.Row {
	if len(list) == 0 {
		return nil
	}
	n := slices.IndexFunc(list, func(f impl.Frame) bool { return f != list[0] })
	if n < 0 {
		n = len(list)
	}
	return append([]impl.Row{{Frame: list[0], Times: n}}, rowsOf(list[n:])...)
}

// textOf returns the text of frames.
func textOf(list []impl.Frame) string {
	var words []string
	for _, r := range rowsOf(list) {
		word := r.Frame.Func + ":" + strconv.Itoa(r.Frame.Line)
		if r.Times > 1 {
			word += "*" + strconv.Itoa(r.Times)
		}
		words = append(words, word)
	}
	return strings.Join(words, " ")
}

// rowWord is what the text of a row looks like.
var rowWord = regexp.MustCompile(`^([a-z]{1,6}:[1-9][0-9]{0,2})(\*([2-9]|1[0-2]))?$`)

// isTraceText reports whether a text is that of a trace, by the looks of its words.
func isTraceText(s string) bool {
	if s == "" {
		return true
	}
	count, last := 0, ""
	for _, word := range strings.Split(s, " ") {
		parts := rowWord.FindStringSubmatch(word)
		if parts == nil || parts[1] == last {
			return false
		}
		last = parts[1]
		times, err := strconv.Atoi(parts[3])
		if err != nil {
			times = 1
		}
		count += times
	}
	return count <= impl.MaxFrames
}

// badFrames returns frames that no trace has, each for one reason alone, by that reason.
func badFrames() map[string]impl.Frame {
	out := map[string]impl.Frame{"nothing": {}}
	for _, name := range append([]string{"sevenxx", strings.Repeat("f", 100000), "f:1", "f*", "f "}, badNames...) {
		out["the function "+strconv.Quote(name[:min(len(name), 9)])+" of "+strconv.Itoa(len(name))] = impl.Frame{Func: name, Line: 1}
	}
	for _, line := range append([]int{0, -1, 1000, 1001}, far...) {
		if line < 1 || line > impl.MaxLine {
			out["the line "+strconv.Itoa(line)] = impl.Frame{Func: "f", Line: line}
		}
	}
	return out
}

// invalidTraces returns frames that are no trace, each for one reason alone, by that reason.
func invalidTraces() map[string][]impl.Frame {
	out := map[string][]impl.Frame{
		"too many equal frames":     run("f", 1, impl.MaxFrames+1),
		"too many different frames": step("f", impl.MaxFrames+1),
		"far too many frames":       run("f", 1, 100000),
	}
	for reason, bad := range badFrames() {
		out[reason+" alone"] = []impl.Frame{bad}
		for i := range 3 {
			x := frames("f 1 g 2 f 1")
			x[i] = bad
			out[reason+" at "+strconv.Itoa(i)] = x
		}
		out[reason+" behind many"] = append(run("f", 1, impl.MaxFrames-1), bad)
	}
	return out
}
