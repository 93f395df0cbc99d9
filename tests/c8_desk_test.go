package tests

import (
	"slices"
	"strconv"
	"strings"
	"testing"

	"loop.example/faultcleanup/impl"
)

func TestLimitsOfDesks(t *testing.T) {
	if impl.MaxDesk != 20 {
		t.Errorf("MaxDesk = %d", impl.MaxDesk)
	}
}

// checkProgramIsReadBack checks the text of a program, and what is read from it.
func checkProgramIsReadBack(t *testing.T, x impl.Tree, p []impl.Line) {
	t.Helper()
	text := impl.ProgramText(x, p)
	if want := programTextOf(x, p); text != want || strings.Count(text, "\n") != len(p) {
		t.Fatalf("ProgramText(%v) = %q, want %q", p, text, want)
	}
	if q, ok := impl.ParseProgram(x, text); !ok || !same(p, q) {
		t.Fatalf("ParseProgram(%q) = %v, %v, want %v", text, q, ok, p)
	}
}

func TestP93ProgramsAreReadBack(t *testing.T) {
	x := mustParse(t, house)
	for _, p := range tablePrograms() {
		checkProgramIsReadBack(t, x, p)
	}
	m := mixer(31)
	for _, y := range append(someTrees(), mustParse(t, wordTree)) {
		for n := range impl.MaxLines + 1 {
			checkProgramIsReadBack(t, y, mixedProgram(&m, n, len(y.Classes)))
		}
	}
}

func TestP93ProgramsOfAllNumbers(t *testing.T) {
	for _, x := range []impl.Tree{mustParse(t, house), mustParse(t, wordTree), mustParse(t, "any\nio any\n"), treeOf([]int{-1, 0, 1, 2, 3, 4, 5, 6})} {
		for kind := range kindWords {
			for a := range 100 {
				for b := range 100 {
					if n := (impl.Line{Kind: kind, A: a, B: b}); fineNumbers(len(x.Classes), n) {
						checkProgramIsReadBack(t, x, around(n))
					}
				}
			}
		}
	}
}

// programTexts are programs, and their texts.
var programTexts = []struct{ p, want string }{
	{"", ""},
	{"pass", "pass\n"},
	{"pass; pass", "pass\npass\n"},
	{"log 0; log 9; log 10; log 99", "log 0\nlog 9\nlog 10\nlog 99\n"},
	{"return 7", "return 7\n"},
	{"again", "again\n"},
	{"raise; raise 3 5; raise 5 99", "raise any 0\nraise net 5\nraise wifi 99\n"},
	{"with; .pass; with 9 1; .pass", "with 0\n pass\nwith 9 quiet\n pass\n"},
	{"loop; .break; loop 3; .continue", "loop 0\n break\nloop 3\n continue\n"},
	{"try; .pass; except 3; .pass; except; .pass; else; .pass; finally; .pass", "try\n pass\nexcept net\n pass\nexcept any\n pass\nelse\n pass\nfinally\n pass\n"},
	// Depths are spaces, also where several blocks end at once.
	{"with 1; .with 2 1; ..loop 3; ...try; ....with 5; .....raise 4 4; ...finally; ....log 8; log 9", "with 1\n with 2 quiet\n  loop 3\n   try\n    with 5\n     raise disk 4\n   finally\n    log 8\nlog 9\n"},
}

func TestP93TextsOfWays(t *testing.T) {
	x := mustParse(t, house)
	for _, c := range programTexts {
		p := mustProgram(t, x, c.p)
		if got := impl.ProgramText(x, p); got != c.want {
			t.Errorf("ProgramText(%q) = %q, want %q", c.p, got, c.want)
		}
		if q, ok := impl.ParseProgram(x, c.want); !ok || !same(p, q) {
			t.Errorf("ParseProgram(%q) = %v, %v", c.want, q, ok)
		}
	}
	y := mustParse(t, wordTree)
	s := "raise raise 5\nwith 1 quiet\n raise quiet 6\ntry\n pass\nexcept pass\n pass\nexcept quiet\n pass\n"
	want := program("raise 2 5; with 1 1; .raise 1 6; try; .pass; except 0; .pass; except 1; .pass")
	if p, ok := impl.ParseProgram(y, s); !ok || !same(p, want) || impl.ProgramText(y, p) != s {
		t.Errorf("ParseProgram(%q) = %v, %v", s, p, ok)
	}
}

// checkProgramText checks ParseProgram of a text that is that of a program or not.
func checkProgramText(t *testing.T, x impl.Tree, s string) {
	t.Helper()
	want, isText := readProgram(x, s)
	p, ok := impl.ParseProgram(x, s)
	if ok != isText || !same(p, want) || !ok && p != nil {
		t.Fatalf("ParseProgram(%.300q) = %v, %v, want %v, %v", s, p, ok, want, isText)
	}
	if ok && impl.ProgramText(x, p) != s {
		t.Fatalf("ParseProgram(%q) = %v, whose text is %q", s, p, impl.ProgramText(x, p))
	}
}

// someRows are lines of texts of programs, in and out of their places.
var someRows = []string{"pass\n", " pass\n", "  log 1\n", "break\n", " continue\n", "again\n", "raise io 4\n", "try\n", " try\n", "except io\n", " except any\n", "else\n", "finally\n", " finally\n", "with 1\n", " with 2 quiet\n", "loop 2\n", "\n", " \n", "no\n"}

func TestP94TextsOfProgramsAreWrittenBack(t *testing.T) {
	x := mustParse(t, house)
	for _, s := range []string{"pass\n", "log 10\nreturn 7\n", "with 3 quiet\n raise net 5\n", "loop 2\n break\n", "try\n pass\nexcept io\n again\nelse\n log 1\nfinally\n continue\n", "loop 1\n try\n  continue\n finally\n  with 1\n   with 9 quiet\n    loop 3\n     raise wifi 99\n"} {
		checkProgramText(t, x, s)
		for _, other := range append(changedTexts(s), changedRows(s, someRows)...) {
			checkProgramText(t, x, other)
		}
	}
	m := mixer(32)
	for i := range 400 {
		s := programTextOf(x, mixedProgram(&m, 1+i%impl.MaxLines, 6))
		for _, other := range changedRows(s, someRows) {
			checkProgramText(t, x, other)
		}
	}
}

func TestP94TextsOfParts(t *testing.T) {
	x := mustParse(t, house)
	for _, s := range textsOf([]string{"pass", "log", "with", "raise", "except", " ", "\n", "1", "0", "io", "quiet"}, 5) {
		checkProgramText(t, x, s)
	}
	for _, s := range textsOf([]string{"pass\n", "try\n", "finally\n", "except io\n", " ", "with 1\n"}, 7) {
		checkProgramText(t, x, s)
	}
}

func TestP94TextsWithoutPrograms(t *testing.T) {
	x := mustParse(t, house)
	list := []string{
		"\n", " ", " \n", "\n\n", "pass", "pass\n\n", "\npass\n", "pass\npass", "pass\r\n", "pass\x00\n", "pass\npass\n ", "pass;pass\n", "PASS\n", "Pass\n", "pas\n", "passs\n", "jump\n", "0\n", "net\n", "\tpass\n", "pass\t\n",
		// Depths are spaces, and nothing else.
		" pass\n", "with 1\npass\n", "with 1\n  pass\n", "with 1\n\tpass\n", "with 1\n pass\n  pass\n", "with 1\n\u00a0pass\n", "with 1\n pass \n", "with 1\n", "with 1\n ", "with 1\n \n", "pass\n pass\n", strings.Repeat(" ", 100000) + "pass\n", "with 1\n with 1\n  with 1\n   with 1\n    with 1\n     with 1\n      pass\n",
		// What is behind words has to be there, just once, and with one space ahead.
		"pass 1\n", "pass \n", "again 0\n", "try 0\n pass\nfinally\n pass\n", "try \n pass\nfinally\n pass\n", "log\n", "log \n", "log  1\n", "log 1 \n", "log 1 1\n", "log1\n", "log 1 quiet\n", "return\n", "return 1 2\n", "raise\n", "raise net\n", "raise net \n", "raise 5\n", "raise 5 net\n", "raise 3 5\n", "raise  net 5\n", "raise net  5\n", "raise net 5 \n", "raise net 5 5\n", "raise net key 5\n",
		"with\n pass\n", "with quiet\n pass\n", "with 3 loud\n pass\n", "with 3 quiet quiet\n pass\n", "with 3 quiet \n pass\n", "with 3  quiet\n pass\n", "with 3 1\n pass\n", "with 3 0\n pass\n", "with 3 \n pass\n", "with quiet 3\n pass\n", "with 10\n pass\n", "loop 4\n pass\n", "loop\n pass\n", "loop 2 quiet\n pass\n", "loop 2 2\n pass\n",
		"try\n pass\nexcept\n pass\n", "try\n pass\nexcept \n pass\n", "try\n pass\nexcept net 0\n pass\n", "try\n pass\nexcept net key\n pass\n", "try\n pass\nexcept net \n pass\n", "try\n pass\nexcept 1\n pass\n", "try\n pass\nexcept io\n pass\nelse 0\n pass\n", "try\n pass\nfinally 0\n pass\n",
		strings.Repeat("pass\n", impl.MaxLines+1), strings.Repeat("pass\n", 100000), strings.Repeat("\n", 100000), strings.Repeat(" ", 100000), "log" + strings.Repeat(" ", 100000) + "1\n", "log 1" + strings.Repeat(" ", 100000) + "\n", strings.Repeat("pass ", 100000) + "\n",
	}
	for _, n := range longNumbers {
		list = append(list, "log "+n+"\n", "return "+n+"\n", "raise net "+n+"\n", "with "+n+"\n pass\n", "with "+n+" quiet\n pass\n", "loop "+n+"\n pass\n")
	}
	for _, name := range noNames {
		list = append(list, "raise "+name+" 5\n", "try\n pass\nexcept "+name+"\n pass\n")
	}
	for _, s := range list {
		if p, ok := impl.ParseProgram(x, s); ok || p != nil {
			t.Errorf("ParseProgram(%.60q) = %v, %v", s, p, ok)
		}
		if _, ok := readProgram(x, s); ok {
			t.Errorf("the test reads %.60q as a program", s)
		}
	}
	for reason, p := range invalidPrograms() {
		if text := impl.ProgramText(x, p); text != "" {
			t.Errorf("ProgramText is %q: %s", text, reason)
		}
		if text := impl.RunText(x, p); text != "" {
			t.Errorf("RunText is %q: %s", text, reason)
		}
	}
}

func TestP94TextsOfTheMostLines(t *testing.T) {
	x := mustParse(t, house)
	s := strings.Repeat("pass\n", impl.MaxLines)
	if p, ok := impl.ParseProgram(x, s); !ok || !same(p, slices.Repeat(program("pass"), impl.MaxLines)) || impl.ProgramText(x, p) != s {
		t.Errorf("ParseProgram of the most lines = %v, %v", p, ok)
	}
	if p, ok := impl.ParseProgram(x, ""); !ok || len(p) != 0 || impl.ProgramText(x, nil) != "" || impl.ProgramText(x, []impl.Line{}) != "" {
		t.Errorf("ParseProgram of nothing = %v, %v", p, ok)
	}
}

func TestP95TextsOfRunsTellHowTheyEnd(t *testing.T) {
	x := mustParse(t, house)
	faults := 0
	for _, p := range tablePrograms() {
		text := impl.RunText(x, p)
		if want := runTextOf(x, p); text != want {
			t.Fatalf("RunText(%v) = %q, want %q", p, text, want)
		}
		if pruned, dropped := impl.RunText(x, impl.PruneLines(x, p)), impl.RunText(x, impl.DropDead(x, p)); pruned != text || dropped != text {
			t.Fatalf("RunText(%v) = %q, but pruned it is %q, and without dead lines %q", p, text, pruned, dropped)
		}
		if fault := impl.FaultText(x, p); fault != "" {
			faults++
			if !strings.HasSuffix(text, "] raise "+fault) {
				t.Fatalf("RunText(%v) = %q does not end with %q", p, text, fault)
			}
		}
	}
	if faults < 1000 {
		t.Errorf("only %d of the programs end with a fault", faults)
	}
}

func TestP95RunsOfWays(t *testing.T) {
	x := mustParse(t, house)
	for s, want := range map[string]string{
		"":                       "[] next",
		"pass":                   "[] next",
		"log 0":                  "[0] next",
		"log 5; log 10":          "[5 10] next",
		"with 3; .log 7":         "[103 7 203] next",
		"return 0":               "[] return 0",
		"log 1; return 99":       "[1] return 99",
		"again":                  "[] raise any:0",
		"log 1; log 2; raise 5 ": "[1 2] raise wifi:0",
		"try; .raise 1 1; except 1; .raise 2 2; finally; .raise 4 30": "[] raise io:1 ~ key:2 ~ disk:30",
		"loop 3; .log 1; .break":                     "[1] next",
		"with 1 1; .raise 3 4; log 8":                "[101 201 8] next",
		"try; .raise 3 4; finally; .log 9; raise":    "[9] raise net:4",
		"try; .raise 3 4; finally; .return 9; raise": "[] return 9",
	} {
		if got := impl.RunText(x, mustProgram(t, x, s)); got != want {
			t.Errorf("RunText(%q) = %q, want %q", s, got, want)
		}
	}
}

// checkExitsAreReadBack checks the text of exits, and what is read from it.
func checkExitsAreReadBack(t *testing.T, x impl.Tree, list []impl.Exit) {
	t.Helper()
	text := impl.ExitsText(x, list)
	if want := exitsTextOf(x, list); text != want {
		t.Fatalf("ExitsText(%v) = %q, want %q", list, text, want)
	}
	if other, ok := impl.ParseExits(x, text); !ok || !same(list, other) {
		t.Fatalf("ParseExits(%q) = %v, %v, want %v", text, other, ok, list)
	}
}

func TestP96ExitsAreReadBack(t *testing.T) {
	x := mustParse(t, house)
	for _, list := range someExits() {
		checkExitsAreReadBack(t, x, list)
	}
	m := mixer(33)
	for _, y := range append(someTrees(), mustParse(t, wordTree)) {
		for n := range impl.MaxExits + 1 {
			checkExitsAreReadBack(t, y, mixedExits(&m, n, len(y.Classes)))
		}
		for kind := range exitWords {
			for a := range 100 {
				for b := range 100 {
					if one := (impl.Exit{Kind: kind, A: a, B: b}); fineExit(len(y.Classes), one) {
						checkExitsAreReadBack(t, y, []impl.Exit{one})
					}
				}
			}
		}
	}
}

func TestP96ExitsOfWays(t *testing.T) {
	x := mustParse(t, house)
	for s, want := range map[string]string{
		"":                                    "",
		"call":                                "call 0\n",
		"call 3; tell; catch 1; raise 2 9":    "call 3\ntell 0\ncatch io\nraise key 9\n",
		"raise 5 99; catch; tell 99; call 10": "raise wifi 99\ncatch any\ntell 99\ncall 10\n",
	} {
		if got := impl.ExitsText(x, exits(s)); got != want {
			t.Errorf("ExitsText(%q) = %q, want %q", s, got, want)
		}
		if list, ok := impl.ParseExits(x, want); !ok || !same(list, exits(s)) {
			t.Errorf("ParseExits(%q) = %v, %v", want, list, ok)
		}
	}
	y := mustParse(t, wordTree)
	s := "catch catch\nraise raise 5\ncatch pass\n"
	if list, ok := impl.ParseExits(y, s); !ok || !same(list, exits("catch 3; raise 2 5; catch")) || impl.ExitsText(y, list) != s {
		t.Errorf("ParseExits(%q) = %v, %v", s, list, ok)
	}
}

// checkExitsText checks ParseExits of a text that is that of exits or not.
func checkExitsText(t *testing.T, x impl.Tree, s string) {
	t.Helper()
	want, isText := readExits(x, s)
	list, ok := impl.ParseExits(x, s)
	if ok != isText || !same(list, want) || !ok && list != nil {
		t.Fatalf("ParseExits(%.300q) = %v, %v, want %v, %v", s, list, ok, want, isText)
	}
	if ok && impl.ExitsText(x, list) != s {
		t.Fatalf("ParseExits(%q) = %v, whose text is %q", s, list, impl.ExitsText(x, list))
	}
}

func TestP97TextsOfExitsAreWrittenBack(t *testing.T) {
	x := mustParse(t, house)
	more := []string{"call 1\n", "catch io\n", "raise key 5\n", "\n", " tell 1\n", "pass\n"}
	for _, s := range []string{"call 0\n", "call 3\ntell 99\ncatch io\nraise net 10\n", strings.Repeat("raise wifi 99\n", impl.MaxExits), strings.Repeat("call 1\n", impl.MaxExits-1)} {
		checkExitsText(t, x, s)
		for _, other := range append(changedTexts(s), changedRows(s, more)...) {
			checkExitsText(t, x, other)
		}
	}
	for _, s := range textsOf([]string{"call", "tell", "catch", "raise", " ", "\n", "1", "0", "io", "net"}, 5) {
		checkExitsText(t, x, s)
	}
}

func TestP97TextsWithoutExits(t *testing.T) {
	x := mustParse(t, house)
	list := []string{
		"\n", " ", " \n", "\n\n", "call", "call\n", "call \n", "call 1", "call 1\n\n", "\ncall 1\n", "call 1\ncall 1", "call 1\r\n", "call 1 \n", " call 1\n", "\tcall 1\n", "call\t1\n", "call  1\n", "call 1 2\n", "call 1 0\n", "call io\n", "tell\n", "tell io\n", "tell 1 2\n", "Call 1\n", "CALL 1\n", "cal 1\n", "calls 1\n", "call1\n", "stop 1\n", "0\n", "0 1\n", "log 1\n", "pass\n",
		"catch\n", "catch \n", "catch 1\n", "catch io 0\n", "catch io key\n", "catch io \n", "catch  io\n", "raise\n", "raise io\n", "raise io \n", "raise 1\n", "raise 1 2\n", "raise io 1 2\n", "raise io 1 \n", "raise io  1\n", "raise  io 1\n", "raise io key 1\n", "raise 1 io\n", "catch except io\n", "except io\n",
		strings.Repeat("call 1\n", impl.MaxExits+1), strings.Repeat("call 1\n", 100000), strings.Repeat("\n", 100000), strings.Repeat(" ", 100000), "call" + strings.Repeat(" ", 100000) + "1\n",
	}
	for _, n := range longNumbers {
		list = append(list, "call "+n+"\n", "tell "+n+"\n", "raise io "+n+"\n")
	}
	for _, name := range noNames {
		list = append(list, "catch "+name+"\n", "raise "+name+" 5\n")
	}
	for _, s := range list {
		if l, ok := impl.ParseExits(x, s); ok || l != nil {
			t.Errorf("ParseExits(%.60q) = %v, %v", s, l, ok)
		}
		if _, ok := readExits(x, s); ok {
			t.Errorf("the test reads %.60q as exits", s)
		}
	}
	for _, l := range invalidExits() {
		if text := impl.ExitsText(x, l); text != "" {
			t.Errorf("ExitsText is %q for %d exits, the first ones %v", text, len(l), l[:min(len(l), 4)])
		}
	}
	if l, ok := impl.ParseExits(x, ""); !ok || len(l) != 0 {
		t.Errorf("ParseExits of nothing = %v, %v", l, ok)
	}
}

func TestTextsOfInvalidTrees(t *testing.T) {
	for reason, x := range invalidTrees() {
		for _, s := range []string{"", "pass\n", "log 1\n", "raise any 1\n", "raise io 1\n", "raise  1\n"} {
			if p, ok := impl.ParseProgram(x, s); ok || p != nil {
				t.Errorf("ParseProgram(%q) = %v, %v: %s", s, p, ok, reason)
			}
		}
		for _, s := range []string{"", "call 1\n", "catch any\n", "catch io\n", "catch \n"} {
			if list, ok := impl.ParseExits(x, s); ok || list != nil {
				t.Errorf("ParseExits(%q) = %v, %v: %s", s, list, ok, reason)
			}
		}
		for _, s := range []string{"", "pass", "log 1", "raise", "raise 1 1", "return 1"} {
			if a, b := impl.ProgramText(x, program(s)), impl.RunText(x, program(s)); a != "" || b != "" {
				t.Errorf("ProgramText(%q) = %q, and RunText %q: %s", s, a, b, reason)
			}
		}
		for _, s := range []string{"", "call 1", "catch", "raise"} {
			if text := impl.ExitsText(x, exits(s)); text != "" {
				t.Errorf("ExitsText(%q) = %q: %s", s, text, reason)
			}
		}
	}
}

// deskPrograms returns programs of which desks are asked, with classes of house.
func deskPrograms() [][]impl.Line {
	list := fewPrograms()
	for _, s := range edges {
		list = append(list, program(s))
	}
	all := tablePrograms()
	for i := 0; i < len(all); i += 23 {
		list = append(list, all[i])
	}
	return list
}

// deskLines returns lines about a program of n lines: all that are asked, with all lines and classes of house, and some that are no questions.
func deskLines(n int) []string {
	list := []string{"run", "lean", "first", "dead", "", "what", "catch"}
	for i := range n + 2 {
		for _, name := range []string{"any", "io", "key", "net", "disk", "wifi", "no"} {
			list = append(list, "catch "+strconv.Itoa(i)+" "+name)
		}
	}
	return list
}

// TestRunDesk holds the answers about many programs against their blocks, and what they run.
func TestRunDesk(t *testing.T) {
	x := mustParse(t, house)
	for _, p := range deskPrograms() {
		text := programTextOf(x, p)
		for lines := range slices.Chunk(deskLines(len(p)), impl.MaxDesk) {
			if got, want := impl.RunDesk(house, text, lines), answersOf(x, p, lines); got != want {
				t.Fatalf("RunDesk(%q, %q) = %q, want %q", text, lines, got, want)
			}
		}
	}
}

func TestRunDeskOfTrees(t *testing.T) {
	m := mixer(34)
	for i, x := range append(someTrees(), mustParse(t, wordTree)) {
		p := mixedProgram(&m, 1+i%impl.MaxLines, len(x.Classes))
		lines := []string{"run", "lean", "first", "dead"}
		for len(lines) < impl.MaxDesk {
			lines = append(lines, "catch "+strconv.Itoa(m.below(len(p)))+" "+x.Classes[m.below(len(x.Classes))].Name)
		}
		if got, want := impl.RunDesk(impl.TreeText(x), programTextOf(x, p), lines), answersOf(x, p, lines); got != want {
			t.Fatalf("RunDesk(%v, %v, %q) = %q, want %q", x, p, lines, got, want)
		}
	}
}

// deskWays are lines about the program of wayText, and their answers.
var deskWays = []struct{ line, want string }{
	{"run", "[101 4 201 3] next"},
	{"lean", "[101 4 201 3] next"},
	{"first", "3"},
	{"dead", "[4 11 12]"},
	{"catch 0 net", "nobody []"},
	{"catch 1 net", "7 []"},
	{"catch 3 net", "7 [5 1]"},
	{"catch 3 key", "9 [5 1]"},
	{"catch 3 any", "nobody [5 1 13]"},
	{"catch 6 wifi", "7 [1]"},
	{"catch 8 io", "nobody [13]"},
	{"catch 13 io", "nobody []"},
	{"catch 14 io", "nobody []"},
	// What is no line of the program, or no class.
	{"catch 15 io", "unknown"}, {"catch 99 io", "unknown"}, {"catch -1 io", "unknown"}, {"catch -0 io", "unknown"}, {"catch +3 io", "unknown"}, {"catch 03 io", "unknown"}, {"catch 00 io", "unknown"}, {"catch 3.0 io", "unknown"}, {"catch 0x3 io", "unknown"}, {"catch three io", "unknown"}, {"catch io 3", "unknown"}, {"catch io io", "unknown"}, {"catch 3 3", "unknown"},
	{"catch 18446744073709551616 io", "unknown"}, {"catch 18446744073709551619 io", "unknown"}, {"catch 9223372036854775807 io", "unknown"}, {"catch -9223372036854775808 io", "unknown"}, {"catch 4294967299 io", "unknown"},
	{"catch 3 no", "unknown"}, {"catch 3 Net", "unknown"}, {"catch 3 ne", "unknown"}, {"catch 3 nets", "unknown"}, {"catch 3 net\n", "unknown"}, {"catch 3 net\t", "unknown"}, {"catch 3 -1", "unknown"}, {"catch 3\n net", "unknown"}, {"catch \t3 net", "unknown"}, {"catch 3 \u00e9", "unknown"}, {"catch \xff \xfe", "unknown"}, {"catch \u0663 net", "unknown"}, {"catch run run", "unknown"},
	// Texts without bytes.
	{"catch  net", "unknown"}, {"catch 3 ", "unknown"}, {"catch  ", "unknown"},
	// All other lines.
	{"", "what"}, {" ", "what"}, {"  ", "what"}, {"   ", "what"}, {"\n", "what"}, {"\x00", "what"}, {"\xff", "what"}, {"help", "what"}, {"what", "what"}, {"wrong", "what"}, {"unknown", "what"}, {"catch", "what"}, {"catch ", "what"}, {"catch 3", "what"}, {"catch net", "what"}, {"catch   ", "what"}, {"catch  3 net", "what"}, {"catch 3  net", "what"}, {"catch 3 net ", "what"}, {"catch 3 net key", "what"}, {" catch 3 net", "what"}, {"catch\t3 net", "what"}, {"catch3 net", "what"}, {"catches 3 net", "what"}, {"Catch 3 net", "what"}, {"\ncatch 3 net", "what"},
	{"run ", "what"}, {" run", "what"}, {"run\n", "what"}, {"Run", "what"}, {"RUN", "what"}, {"run run", "what"}, {"run 3 net", "what"}, {"ru", "what"}, {"runs", "what"}, {"run\x00", "what"}, {"lean ", "what"}, {"lean 1", "what"}, {"first ", "what"}, {"first 3 net", "what"}, {"dead ", "what"}, {"dead 4", "what"}, {"run lean", "what"},
}

// wayText is the text of a program with all that desks are asked about.
const wayText = "try\n with 1\n  try\n   raise net 5\n   log 9\n  finally\n   log 4\nexcept io\n pass\nexcept key\n pass\nexcept net\n log 7\nfinally\n log 3\n"

func TestP98EachLineHasAnAnswer(t *testing.T) {
	var lines []string
	want := ""
	for _, c := range deskWays {
		if got := impl.RunDesk(house, wayText, []string{c.line}); got != c.want+"\n" {
			t.Errorf("RunDesk(%q) = %q, want %q", c.line, got, c.want)
		}
	}
	for i := range impl.MaxDesk + 1 {
		if got := impl.RunDesk(house, wayText, lines); got != want || strings.Count(got, "\n") != i {
			t.Errorf("RunDesk(%q) = %q, want %q", lines, got, want)
		}
		c := deskWays[i*4]
		lines = append(lines, c.line)
		want += c.want + "\n"
	}
	if got := impl.RunDesk(house, wayText, lines); len(lines) != impl.MaxDesk+1 || got != "" {
		t.Errorf("RunDesk of %d lines = %q", len(lines), got)
	}
}

func TestP98FirstLinesAreAnsweredFirst(t *testing.T) {
	x := mustParse(t, house)
	for _, p := range deskPrograms() {
		text := programTextOf(x, p)
		lines := deskLines(len(p))[:impl.MaxDesk]
		all := impl.RunDesk(house, text, lines)
		if strings.Count(all, "\n") != len(lines) {
			t.Fatalf("RunDesk(%q, %q) = %q", text, lines, all)
		}
		for _, n := range []int{0, 1, 2, 5, impl.MaxDesk - 1} {
			if first := impl.RunDesk(house, text, lines[:n]); !strings.HasPrefix(all, first) || strings.Count(first, "\n") != n {
				t.Fatalf("RunDesk(%q, %q) = %q, but all are answered by %q", text, lines[:n], first, all)
			}
		}
	}
}

func TestP98DesksOfNothing(t *testing.T) {
	lines := []string{"run", "lean", "first", "dead", "catch 0 any", "catch 1 any", "catch -1 any", "catch  any", "catch 0", ""}
	want := "[] next\n[] next\nnone\n[]\nunknown\nunknown\nunknown\nunknown\nwhat\nwhat\n"
	for _, tree := range []string{house, "any\n"} {
		if got := impl.RunDesk(tree, "", lines); got != want {
			t.Errorf("RunDesk of a program of nothing = %q, want %q", got, want)
		}
	}
	if impl.RunDesk(house, "", nil) != "" || impl.RunDesk(house, wayText, []string{}) != "" || impl.RunDesk("", "no", nil) != "" {
		t.Error("RunDesk of no lines tells something")
	}
}

func TestDesksOfNoProgram(t *testing.T) {
	lines := []string{"run", "", "what", "catch 0 any", "dead", "first", "lean", "catch 9 no"}
	for len(lines) < impl.MaxDesk {
		lines = append(lines, "wrong")
	}
	type texts struct{ tree, s string }
	list := []texts{{"", ""}, {"", "pass\n"}, {"x", ""}, {"x", "pass\n"}, {"any", ""}, {"any\n\n", ""}, {"any\nio no\n", "pass\n"}, {"Any\n", "pass\n"}, {"any\n", "raise io 1\n"}, {wayText, house}, {"any any\n", "pass\n"}, {"\n", "\n"}}
	for _, s := range []string{"pass", "try\n", "\n", " pass\n", "break\n", "raise no 1\n", "raise  1\n", "log 100\n", "log 01\n", "try\n pass\n", strings.Repeat("pass\n", impl.MaxLines+1)} {
		list = append(list, texts{house, s})
	}
	for _, c := range list {
		for n := range len(lines) + 1 {
			if got := impl.RunDesk(c.tree, c.s, lines[:n]); got != strings.Repeat("wrong\n", n) {
				t.Errorf("RunDesk(%q, %q) = %q for %d lines", c.tree, c.s, got, n)
			}
		}
		for _, n := range []int{impl.MaxDesk + 1, 2 * impl.MaxDesk, 100000} {
			if got := impl.RunDesk(c.tree, c.s, make([]string, n)); got != "" {
				t.Errorf("RunDesk(%q, %q) = %.60q for %d lines", c.tree, c.s, got, n)
			}
		}
	}
}

func TestP99LeanProgramsDoTheSame(t *testing.T) {
	x := mustParse(t, house)
	for _, p := range tablePrograms() {
		text := programTextOf(x, p)
		run, lean := impl.RunDesk(house, text, []string{"run"}), impl.RunDesk(house, text, []string{"lean"})
		if run != lean || run != runTextOf(x, p)+"\n" {
			t.Fatalf("RunDesk(%q) answers run by %q, and lean by %q", text, run, lean)
		}
	}
}

// TestTextsStay checks that no function of texts and desks changes its arguments or keeps anything, and that no two results share memory.
func TestTextsStay(t *testing.T) {
	x := mustParse(t, house)
	p := append(program("with 1 1; .log 1; .raise 3 5"), slices.Repeat(program("log 77"), 8)...)
	list := append(exits("call 1; catch 3; raise 2 4"), slices.Repeat(exits("call 77"), 8)...)
	lines := append([]string{"run", "catch 1 net", "no"}, "dead", "first")
	keptP, keptList, keptLines, keptTree := slices.Clone(p), slices.Clone(list), slices.Clone(lines), slices.Clone(x.Classes)
	for range 2 {
		text, exitsText := impl.ProgramText(x, p[:3]), impl.ExitsText(x, list[:3])
		run, answers := impl.RunText(x, p[:3]), impl.RunDesk(house, text, lines[:3])
		if text != "with 1 quiet\n log 1\n raise net 5\n" || exitsText != "call 1\ncatch net\nraise key 4\n" || run != "[101 1 201] next" || answers != "[101 1 201] next\n0 []\nwhat\n" {
			t.Fatalf("the texts are %q, %q, %q and %q", text, exitsText, run, answers)
		}
		q, _ := impl.ParseProgram(x, text)
		other, _ := impl.ParseExits(x, exitsText)
		if !same(q, keptP[:3]) || !same(other, keptList[:3]) {
			t.Fatalf("ParseProgram is %v, and ParseExits %v", q, other)
		}
		clear(q[:cap(q)])
		clear(other[:cap(other)])
		if !same(p, keptP) || !same(list, keptList) || !same(lines, keptLines) || !same(x.Classes, keptTree) {
			t.Fatalf("the arguments are now %v, %v and %v", p, list, lines)
		}
	}
}
