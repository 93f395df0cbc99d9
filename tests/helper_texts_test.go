package tests

import (
	"fmt"
	"regexp"
	"slices"
	"strconv"
	"strings"

	"loop.example/faultcleanup/impl"
)

// number is a form of numbers without zeros ahead.
const number = "(0|[1-9][0-9]*)"

// lineForms are the forms of lines of a program, behind their spaces: a word, and what comes behind it.
var lineForms = regexp.MustCompile(`^(?:(pass|again|break|continue|try|else|finally)|(log|return|loop) ` + number + `|(with) ` + number + `( quiet)?|(raise) ([a-z]+) ` + number + `|(except) ([a-z]+))$`)

// exitForms are the forms of lines of exits.
var exitForms = regexp.MustCompile(`^(?:(call|tell) ` + number + `|(catch) ([a-z]+)|(raise) ([a-z]+) ` + number + `)$`)

// numberForm is the form of a number.
var numberForm = regexp.MustCompile("^" + number + "$")

// lineTextOf returns the text of a line of a program that is one.
func lineTextOf(x impl.Tree, n impl.Line) string {
	text := strings.Repeat(" ", n.Depth) + kindWords[n.Kind]
	switch n.Kind {
	case impl.LnLog, impl.LnReturn, impl.LnLoop:
		return fmt.Sprintf("%s %d\n", text, n.A)
	case impl.LnWith:
		return fmt.Sprintf("%s %d%s\n", text, n.A, []string{"", " quiet"}[n.B])
	case impl.LnRaise:
		return fmt.Sprintf("%s %s %d\n", text, x.Classes[n.A].Name, n.B)
	case impl.LnExcept:
		return fmt.Sprintf("%s %s\n", text, x.Classes[n.A].Name)
	}
	return text + "\n"
}

// programTextOf returns the text of a program that is one.
func programTextOf(x impl.Tree, p []impl.Line) string {
	text := ""
	for _, n := range p {
		text += lineTextOf(x, n)
	}
	return text
}

// exitsTextOf returns the text of valid exits.
func exitsTextOf(x impl.Tree, list []impl.Exit) string {
	text := ""
	for _, one := range list {
		text += exitWords[one.Kind]
		switch one.Kind {
		case impl.XtCatch:
			text += fmt.Sprintf(" %s\n", x.Classes[one.A].Name)
		case impl.XtRaise:
			text += fmt.Sprintf(" %s %d\n", x.Classes[one.A].Name, one.B)
		default:
			text += fmt.Sprintf(" %d\n", one.A)
		}
	}
	return text
}

// splitRows returns the lines of a text, each of which has a newline behind it; false if one has none.
func splitRows(s string) ([]string, bool) {
	rows := strings.Split(s, "\n")
	last := len(rows) - 1
	return rows[:last], rows[last] == ""
}

// numberOf returns the number of digits; one that is too great for all, if it is too great for an int.
func numberOf(digits string) int {
	n, err := strconv.Atoi(digits)
	if err != nil {
		return 1 << 40
	}
	return n
}

// classNamed returns the class of a name; -1 if there is none.
func classNamed(x impl.Tree, name string) int {
	return slices.IndexFunc(x.Classes, func(c impl.Class) bool { return c.Name == name })
}

// readLine reads a line of a program; false if its form is none.
func readLine(x impl.Tree, row string) (impl.Line, bool) {
	behind := strings.TrimLeft(row, " ")
	n := impl.Line{Depth: len(row) - len(behind)}
	parts := lineForms.FindStringSubmatch(behind)
	if parts == nil {
		return n, false
	}
	n.Kind = slices.Index(kindWords, parts[1]+parts[2]+parts[4]+parts[7]+parts[10])
	switch n.Kind {
	case impl.LnLog, impl.LnReturn, impl.LnLoop:
		n.A = numberOf(parts[3])
	case impl.LnWith:
		n.A, n.B = numberOf(parts[5]), len(parts[6])/len(" quiet")
	case impl.LnRaise:
		n.A, n.B = classNamed(x, parts[8]), numberOf(parts[9])
	case impl.LnExcept:
		n.A = classNamed(x, parts[11])
	}
	return n, true
}

// readProgram returns the program of a text; false if it is that of none.
func readProgram(x impl.Tree, s string) ([]impl.Line, bool) {
	rows, ok := splitRows(s)
	var p []impl.Line
	for _, row := range rows {
		n, isLine := readLine(x, row)
		ok = ok && isLine
		p = append(p, n)
	}
	if !ok {
		return nil, false
	}
	if _, ok := readPieces(x, p); !ok {
		return nil, false
	}
	return p, true
}

// readExits returns the exits of a text; false if it is that of none.
func readExits(x impl.Tree, s string) ([]impl.Exit, bool) {
	rows, ok := splitRows(s)
	if !ok || len(rows) > 8 || !impl.ValidTree(x) {
		return nil, false
	}
	var list []impl.Exit
	for _, row := range rows {
		parts := exitForms.FindStringSubmatch(row)
		if parts == nil {
			return nil, false
		}
		one := impl.Exit{Kind: slices.Index(exitWords, parts[1]+parts[3]+parts[5])}
		switch one.Kind {
		case impl.XtCatch:
			one.A = classNamed(x, parts[4])
		case impl.XtRaise:
			one.A, one.B = classNamed(x, parts[6]), numberOf(parts[7])
		default:
			one.A = numberOf(parts[2])
		}
		if !fineExit(len(x.Classes), one) {
			return nil, false
		}
		list = append(list, one)
	}
	return list, true
}

// runTextOf returns the text of what a program that is one does.
func runTextOf(x impl.Tree, p []impl.Line) string {
	r, _ := runOf(x, p)
	log := fmt.Sprint(r.Log)
	switch r.End {
	case impl.EdReturn:
		return fmt.Sprintf("%s return %d", log, r.Value)
	case impl.EdRaise:
		var chain []string
		for _, f := range r.Heap.Faults {
			chain = append(chain, fmt.Sprintf("%s:%d", x.Classes[f.Class].Name, f.Code))
		}
		return log + " raise " + strings.Join(chain, " ~ ")
	}
	return log + " next"
}

// answerOf returns what a line about a program that is one is answered by.
func answerOf(x impl.Tree, p []impl.Line, line string) string {
	switch line {
	case "run", "lean":
		return runTextOf(x, p)
	case "first":
		if i := firstJumpOf(x, p); i >= 0 {
			return fmt.Sprint(i)
		}
		return "none"
	case "dead":
		return fmt.Sprint(deadOf(x, piecesOf(x, p), false))
	}
	parts := strings.Split(line, " ")
	if len(parts) != 3 || parts[0] != "catch" {
		return "what"
	}
	i, a := numberOf(parts[1]), classNamed(x, parts[2])
	if !numberForm.MatchString(parts[1]) || i >= len(p) || a < 0 {
		return "unknown"
	}
	shells := spotsOf(piecesOf(x, p))[i].shells
	catcher, ahead := stopOf(x, shells, a)
	by := fmt.Sprint(catcher)
	if catcher < 0 {
		by = "nobody"
	}
	return by + " " + fmt.Sprint(wayOf(shells[:ahead]))
}

// answersOf returns what lines about a program that is one are answered by.
func answersOf(x impl.Tree, p []impl.Line, lines []string) string {
	out := ""
	for _, line := range lines {
		out += answerOf(x, p, line) + "\n"
	}
	return out
}

// wordTree is a tree whose classes have words of programs, exits and desks as names.
const wordTree = "pass\nquiet pass\nraise quiet\ncatch pass\nnext catch\nrun raise\n"

// changedTexts returns a text with one byte more, less, or another one, with two less, and its beginnings and ends.
func changedTexts(s string) []string {
	var out []string
	for i := range len(s) + 1 {
		one, two := min(i+1, len(s)), min(i+2, len(s))
		for c := range 256 {
			b := string([]byte{byte(c)})
			out = append(out, s[:i]+b+s[i:], s[:i]+b+s[one:])
		}
		out = append(out, s[:i]+s[one:], s[:i]+s[two:], s[:i], s[i:])
	}
	return out
}

// changedRows returns a text with one line less, twice, or one place later, and with one more line in each place.
func changedRows(s string, more []string) []string {
	rows := strings.SplitAfter(s, "\n")
	rows = rows[:len(rows)-1]
	var out []string
	for i := range len(rows) + 1 {
		for _, row := range more {
			out = append(out, strings.Join(slices.Insert(slices.Clone(rows), i, row), ""))
		}
		if i == len(rows) {
			break
		}
		less := slices.Delete(slices.Clone(rows), i, i+1)
		out = append(out, strings.Join(less, ""), strings.Join(slices.Insert(slices.Clone(rows), i, rows[i]), ""))
		if i < len(less) {
			out = append(out, strings.Join(slices.Insert(less, i+1, rows[i]), ""))
		}
	}
	return out
}

// textsOf returns all texts of up to most parts.
func textsOf(parts []string, most int) []string {
	var out []string
	for _, picks := range listsOf(len(parts), most) {
		s := ""
		for _, i := range picks {
			s += parts[i]
		}
		out = append(out, s)
	}
	return out
}

// longNumbers are numbers that are too great, have something ahead or behind, or are no numbers, for all that takes numbers up to 99.
var longNumbers = []string{
	"", "100", "101", "999", "00", "01", "007", "099", "-0", "-1", "+0", "+1", "1.0", "1.", ".5", "1e1", "0x1", "0b1", "0o7", "1_0", "x", "one", "net", "1\t", "\t1", "1\r", "1\x00", "\u0661", "\uff11", "\xff",
	"18446744073709551616", "18446744073709551617", "9223372036854775807", "9223372036854775808", "-9223372036854775808", "-9223372036854775809", "4294967296", "4294967297", "99999999999999999999", strings.Repeat("9", 100000), strings.Repeat("0", 100000), strings.Repeat("0", 100000) + "1",
}

// noNames are no names of classes of house: none, words, numbers, and names with something more, less, or in other letters.
var noNames = []string{"", "no", "an", "anya", "ne", "nets", "Net", "NET", "net\t", "\tnet", "net\r", "net\x00", "net\n", "net:", "net:5", "net,", "0", "1", "3", "-1", "quiet", "pass", "try", "\u00e9", "\xff", "n\u00e9t", "letters", strings.Repeat("net", 50000)}
