package tests

import (
	"slices"
	"strings"
	"testing"

	"loop.example/faultcleanup/impl"
)

// house has any 0, io 1, key 2, net 3, disk 4, and wifi 5.
const house = "any\nio any\nkey any\nnet io\ndisk io\nwifi net\n"

// outside are numbers of no class of house.
var outside = []int{-1, -2, 6, 7, 8, 1 << 62, -1 << 63}

// badLists are lists with something else than classes of house, or of too many of them.
func badLists() [][]int {
	list := [][]int{{0, 1, 2, 3, 4, 5, 0}, {0, 0, 0, 0, 0, 0, 0}}
	for _, a := range outside {
		list = append(list, []int{a}, []int{0, a}, []int{a, 0}, []int{0, 1, 2, 3, 4, a})
	}
	return list
}

func TestLimitsOfClasses(t *testing.T) {
	if impl.MaxName != 6 || impl.MaxClasses != 8 || impl.MaxCatches != 6 {
		t.Errorf("MaxName, MaxClasses, MaxCatches = %d, %d, %d", impl.MaxName, impl.MaxClasses, impl.MaxCatches)
	}
}

func TestValidTree(t *testing.T) {
	for _, x := range someTrees() {
		if !impl.ValidTree(x) {
			t.Errorf("ValidTree(%v) is false", x)
		}
	}
	for _, name := range []string{"a", "z", "az", "letter", "zzzzzz"} {
		if !impl.ValidTree(impl.Tree{Classes: []impl.Class{{Name: name, Parent: -1}}}) {
			t.Errorf("ValidTree of the name %q is false", name)
		}
	}
	for reason, x := range invalidTrees() {
		if impl.ValidTree(x) {
			t.Errorf("ValidTree is true: %s", reason)
		}
	}
}

// TestInvalidTrees asks each function about trees that are not valid.
func TestInvalidTrees(t *testing.T) {
	for reason, x := range invalidTrees() {
		if impl.ClassNamed(x, "any") != -1 || impl.ClassNamed(x, "io") != -1 || impl.ClassNamed(x, "") != -1 {
			t.Errorf("ClassNamed finds a class: %s", reason)
		}
		if impl.IsA(x, 0, 0) || impl.IsA(x, 1, 0) || impl.AboveOf(x, 0) != nil || impl.BelowOf(x, 0) != nil || impl.CommonClass(x, 0, 0) != -1 {
			t.Errorf("IsA, AboveOf, BelowOf or CommonClass has something: %s", reason)
		}
		for _, parent := range []int{-1, 0, 1} {
			if y, ok := impl.AddClass(x, "more", parent); ok || y.Classes != nil {
				t.Errorf("AddClass = %v, %v: %s", y, ok, reason)
			}
		}
		for _, list := range [][]int{nil, {0}, {0, 0}} {
			if impl.FirstCatch(x, list, 0) != -2 || impl.DeadCatches(x, list) != nil || impl.CaughtBy(x, list) != nil || impl.LeastCatches(x, list) != nil {
				t.Errorf("FirstCatch, DeadCatches, CaughtBy or LeastCatches of %v has something: %s", list, reason)
			}
		}
		if s := impl.TreeText(x); s != "" {
			t.Errorf("TreeText = %q: %s", s, reason)
		}
	}
}

func TestP1TreesCanBeCut(t *testing.T) {
	for _, x := range someTrees() {
		for n := len(x.Classes); n > 0; n-- {
			if cut := (impl.Tree{Classes: x.Classes[:n]}); !impl.ValidTree(cut) {
				t.Errorf("ValidTree(%v) is false", cut)
			}
		}
	}
}

func TestP2NamesAreOfClasses(t *testing.T) {
	for _, x := range someTrees() {
		for i, c := range x.Classes {
			if got := impl.ClassNamed(x, c.Name); got != i {
				t.Errorf("ClassNamed(%v, %q) = %d", x, c.Name, got)
			}
		}
	}
	x := mustParse(t, house)
	for _, name := range append([]string{"no", "an", "anya", "ANY"}, badNames...) {
		if got := impl.ClassNamed(x, name); got != -1 {
			t.Errorf("ClassNamed(%q) = %d", name, got)
		}
	}
}

func TestP3ToBeBelowGoesOn(t *testing.T) {
	for _, x := range someTrees() {
		n := len(x.Classes)
		for a := range n {
			if !impl.IsA(x, a, a) || !impl.IsA(x, a, 0) {
				t.Errorf("IsA(%v) of %d and itself, or the root, is false", x, a)
			}
			for b := range n {
				got := impl.IsA(x, a, b)
				if got != isBelow(x, a, b) || got != slices.Contains(impl.BelowOf(x, b), a) || got && a != b && impl.IsA(x, b, a) {
					t.Errorf("IsA(%v, %d, %d) = %v", x, a, b, got)
				}
			}
		}
	}
	x := mustParse(t, house)
	if !impl.IsA(x, 5, 1) || !impl.IsA(x, 5, 3) || impl.IsA(x, 5, 4) || impl.IsA(x, 5, 2) || impl.IsA(x, 1, 5) {
		t.Error("IsA of wifi")
	}
	for _, a := range outside {
		if impl.IsA(x, a, 0) || impl.IsA(x, 0, a) || impl.IsA(x, a, a) {
			t.Errorf("IsA of %d is true", a)
		}
	}
}

func TestP4WaysGoUpToTheRoot(t *testing.T) {
	for _, x := range someTrees() {
		for a := range x.Classes {
			got := impl.AboveOf(x, a)
			if len(got) == 0 || got[0] != a || got[len(got)-1] != 0 {
				t.Fatalf("AboveOf(%v, %d) = %v", x, a, got)
			}
			for i := 1; i < len(got); i++ {
				if got[i] != x.Classes[got[i-1]].Parent {
					t.Errorf("AboveOf(%v, %d) = %v", x, a, got)
				}
			}
		}
	}
	x := mustParse(t, house)
	if !same(impl.AboveOf(x, 5), []int{5, 3, 1, 0}) || !same(impl.AboveOf(x, 0), []int{0}) {
		t.Errorf("AboveOf = %v, %v", impl.AboveOf(x, 5), impl.AboveOf(x, 0))
	}
	for _, a := range outside {
		if got := impl.AboveOf(x, a); got != nil {
			t.Errorf("AboveOf(%d) = %v", a, got)
		}
	}
}

func TestP5WhatIsBelowIsTogether(t *testing.T) {
	for _, x := range someTrees() {
		if got := impl.BelowOf(x, 0); len(got) != len(x.Classes) {
			t.Errorf("BelowOf(%v, 0) = %v", x, got)
		}
		for a := range x.Classes {
			got := impl.BelowOf(x, a)
			if len(got) == 0 || got[0] != a || !ascends(got) {
				t.Errorf("BelowOf(%v, %d) = %v", x, a, got)
			}
			for _, b := range got {
				if !hasAll(got, impl.BelowOf(x, b)) {
					t.Errorf("BelowOf(%v, %d) = %v has not all below %d", x, a, got, b)
				}
			}
		}
	}
	x := mustParse(t, house)
	if !same(impl.BelowOf(x, 1), []int{1, 3, 4, 5}) || !same(impl.BelowOf(x, 2), []int{2}) {
		t.Errorf("BelowOf = %v, %v", impl.BelowOf(x, 1), impl.BelowOf(x, 2))
	}
	for _, a := range outside {
		if got := impl.BelowOf(x, a); got != nil {
			t.Errorf("BelowOf(%d) = %v", a, got)
		}
	}
}

// ascends reports whether each number of a list is greater than the one ahead of it.
func ascends(list []int) bool {
	for i := 1; i < len(list); i++ {
		if list[i] <= list[i-1] {
			return false
		}
	}
	return true
}

// hasAll reports whether a list has each one of another list.
func hasAll(list, part []int) bool {
	return !slices.ContainsFunc(part, func(a int) bool { return !slices.Contains(list, a) })
}

func TestP6CommonClassesAreTheLowestOnes(t *testing.T) {
	for _, x := range someTrees() {
		n := len(x.Classes)
		for a := range n {
			for b := range n {
				got := impl.CommonClass(x, a, b)
				if got != impl.CommonClass(x, b, a) || !isBelow(x, a, got) || !isBelow(x, b, got) {
					t.Errorf("CommonClass(%v, %d, %d) = %d", x, a, b, got)
				}
				for c := range n {
					if isBelow(x, a, c) && isBelow(x, b, c) && !impl.IsA(x, got, c) {
						t.Errorf("CommonClass(%v, %d, %d) = %d, which is not %d", x, a, b, got, c)
					}
				}
			}
		}
	}
	x := mustParse(t, house)
	for _, q := range [][3]int{{5, 4, 1}, {5, 3, 3}, {3, 5, 3}, {5, 2, 0}, {4, 4, 4}, {0, 5, 0}, {0, 0, 0}} {
		if got := impl.CommonClass(x, q[0], q[1]); got != q[2] {
			t.Errorf("CommonClass(%d, %d) = %d", q[0], q[1], got)
		}
	}
	for _, a := range outside {
		if impl.CommonClass(x, a, 0) != -1 || impl.CommonClass(x, 0, a) != -1 || impl.CommonClass(x, a, a) != -1 {
			t.Errorf("CommonClass of %d is not -1", a)
		}
	}
}

func TestP7NewClassesAreBelowTheirParentsAlone(t *testing.T) {
	for _, x := range someTrees() {
		n := len(x.Classes)
		for p := range n {
			y, ok := impl.AddClass(x, "more", p)
			if ok != (n < impl.MaxClasses) {
				t.Fatalf("AddClass(%v, more, %d) = %v", x, p, ok)
			}
			if !ok {
				continue
			}
			if !impl.ValidTree(y) || !same(y.Classes, append(slices.Clone(x.Classes), impl.Class{Name: "more", Parent: p})) {
				t.Errorf("AddClass(%v, more, %d) = %v", x, p, y)
			}
			if !same(impl.AboveOf(y, n), append([]int{n}, impl.AboveOf(x, p)...)) || !same(impl.BelowOf(y, n), []int{n}) {
				t.Errorf("AboveOf, BelowOf of AddClass(%v, more, %d) = %v, %v", x, p, impl.AboveOf(y, n), impl.BelowOf(y, n))
			}
		}
	}
}

func TestP7WhatCannotBeAdded(t *testing.T) {
	x := mustParse(t, house)
	for _, name := range append([]string{"any", "io", "wifi"}, badNames...) {
		if y, ok := impl.AddClass(x, name, 0); ok || y.Classes != nil {
			t.Errorf("AddClass(%q, 0) = %v, %v", name, y, ok)
		}
	}
	for _, p := range outside {
		if y, ok := impl.AddClass(x, "more", p); ok || y.Classes != nil {
			t.Errorf("AddClass(more, %d) = %v, %v", p, y, ok)
		}
	}
	full := treeOf([]int{-1, 0, 0, 0, 0, 0, 0, 0})
	if y, ok := impl.AddClass(full, "more", 0); ok || y.Classes != nil {
		t.Errorf("AddClass to a full tree = %v, %v", y, ok)
	}
}

func TestP8TheFirstOneCatches(t *testing.T) {
	for _, x := range someTrees() {
		for _, list := range catchLists(x) {
			for a := range x.Classes {
				got := impl.FirstCatch(x, list, a)
				if got < 0 {
					if got != -1 || isCaught(x, list, a) || slices.Contains(impl.CaughtBy(x, list), a) {
						t.Errorf("FirstCatch(%v, %v, %d) = %d", x, list, a, got)
					}
				} else if got >= len(list) || !isBelow(x, a, list[got]) || isCaught(x, list[:got], a) {
					t.Errorf("FirstCatch(%v, %v, %d) = %d", x, list, a, got)
				}
			}
		}
	}
}

func TestP8FirstCatchOfHouse(t *testing.T) {
	x := mustParse(t, house)
	list := []int{5, 1, 3, 1, 2}
	for a, want := range []int{-1, 1, 4, 1, 1, 0} {
		if got := impl.FirstCatch(x, list, a); got != want {
			t.Errorf("FirstCatch(%v, %d) = %d", list, a, got)
		}
		if got := impl.FirstCatch(x, nil, a); got != -1 {
			t.Errorf("FirstCatch(nil, %d) = %d", a, got)
		}
	}
	for _, a := range outside {
		if impl.FirstCatch(x, list, a) != -2 || impl.FirstCatch(x, nil, a) != -2 {
			t.Errorf("FirstCatch of %d is not -2", a)
		}
	}
	for _, bad := range badLists() {
		if got := impl.FirstCatch(x, bad, 0); got != -2 {
			t.Errorf("FirstCatch(%v, 0) = %d", bad, got)
		}
	}
}

func TestP9DeadCatchesCatchNothing(t *testing.T) {
	for _, x := range someTrees() {
		for _, list := range catchLists(x) {
			dead := impl.DeadCatches(x, list)
			if !ascends(dead) {
				t.Errorf("DeadCatches(%v, %v) = %v", x, list, dead)
			}
			for i, b := range list {
				if slices.Contains(dead, i) == (impl.FirstCatch(x, list, b) == i) {
					t.Errorf("DeadCatches(%v, %v) = %v, but %d catches first at %d", x, list, dead, b, impl.FirstCatch(x, list, b))
				}
			}
			for a := range x.Classes {
				if slices.Contains(dead, impl.FirstCatch(x, list, a)) {
					t.Errorf("DeadCatches(%v, %v) = %v, but one catches %d", x, list, dead, a)
				}
			}
		}
	}
}

func TestP9DeadCatchesOfHouse(t *testing.T) {
	x := mustParse(t, house)
	for _, q := range []struct{ list, want []int }{
		{nil, nil},
		{[]int{2}, nil},
		{[]int{5, 3, 1, 0}, nil},
		{[]int{0, 1, 3, 5}, []int{1, 2, 3}},
		{[]int{0, 0, 0}, []int{1, 2}},
		{[]int{3, 1, 4, 2, 1, 5}, []int{2, 4, 5}},
		{[]int{2, 1, 2, 0, 2, 0}, []int{2, 4, 5}},
	} {
		if got := impl.DeadCatches(x, q.list); !same(got, q.want) {
			t.Errorf("DeadCatches(%v) = %v", q.list, got)
		}
	}
	for _, bad := range badLists() {
		if got := impl.DeadCatches(x, bad); got != nil {
			t.Errorf("DeadCatches(%v) = %v", bad, got)
		}
	}
}

func TestP10CaughtClassesGoDown(t *testing.T) {
	for _, x := range someTrees() {
		for _, list := range catchLists(x) {
			got := impl.CaughtBy(x, list)
			for a := range x.Classes {
				if slices.Contains(got, a) != isCaught(x, list, a) {
					t.Errorf("CaughtBy(%v, %v) = %v", x, list, got)
				}
			}
			for _, a := range got {
				if !hasAll(got, impl.BelowOf(x, a)) {
					t.Errorf("CaughtBy(%v, %v) = %v has not all below %d", x, list, got, a)
				}
			}
			if alive := withoutAt(list, impl.DeadCatches(x, list)); !ascends(got) || !same(impl.CaughtBy(x, alive), got) {
				t.Errorf("CaughtBy(%v, %v) = %v, and of %v it is %v", x, list, got, alive, impl.CaughtBy(x, alive))
			}
		}
	}
}

// withoutAt returns a list without what is at some indices.
func withoutAt(list, at []int) []int {
	var out []int
	for i, a := range list {
		if !slices.Contains(at, i) {
			out = append(out, a)
		}
	}
	return out
}

func TestP10CaughtByOfHouse(t *testing.T) {
	x := mustParse(t, house)
	for _, q := range []struct{ list, want []int }{
		{nil, nil},
		{[]int{0}, []int{0, 1, 2, 3, 4, 5}},
		{[]int{3, 2}, []int{2, 3, 5}},
		{[]int{5, 5, 3, 1, 1, 5}, []int{1, 3, 4, 5}},
	} {
		if got := impl.CaughtBy(x, q.list); !same(got, q.want) {
			t.Errorf("CaughtBy(%v) = %v", q.list, got)
		}
	}
	for _, bad := range badLists() {
		if got := impl.CaughtBy(x, bad); got != nil {
			t.Errorf("CaughtBy(%v) = %v", bad, got)
		}
	}
}

func TestP11LeastCatchesCatchTheSame(t *testing.T) {
	for _, x := range someTrees() {
		for _, list := range catchLists(x) {
			least := impl.LeastCatches(x, list)
			caught := impl.CaughtBy(x, list)
			if !ascends(least) || !hasAll(list, least) || !same(impl.CaughtBy(x, least), caught) || len(impl.DeadCatches(x, least)) != 0 {
				t.Errorf("LeastCatches(%v, %v) = %v", x, list, least)
			}
			for i := range least {
				fewer := withoutAt(least, []int{i})
				if got := impl.CaughtBy(x, fewer); len(got) >= len(caught) {
					t.Errorf("LeastCatches(%v, %v) = %v, but %v catches as much", x, list, least, fewer)
				}
			}
		}
	}
}

func TestP11LeastCatchesOfHouse(t *testing.T) {
	x := mustParse(t, house)
	for _, q := range []struct{ list, want []int }{
		{nil, nil},
		{[]int{0}, []int{0}},
		{[]int{5, 3, 0, 3}, []int{0}},
		{[]int{4, 2, 3}, []int{2, 3, 4}},
		{[]int{5, 2, 5, 2, 3, 3}, []int{2, 3}},
		{[]int{3, 1, 4, 2, 1}, []int{1, 2}},
	} {
		if got := impl.LeastCatches(x, q.list); !same(got, q.want) {
			t.Errorf("LeastCatches(%v) = %v", q.list, got)
		}
	}
	for _, bad := range badLists() {
		if got := impl.LeastCatches(x, bad); got != nil {
			t.Errorf("LeastCatches(%v) = %v", bad, got)
		}
	}
}

func TestP12TreesAreReadBack(t *testing.T) {
	for _, x := range someTrees() {
		s := impl.TreeText(x)
		y, ok := impl.ParseTree(s)
		if !ok || !same(x.Classes, y.Classes) {
			t.Errorf("ParseTree(%q) = %v, %v", s, y, ok)
		}
	}
	x := impl.Tree{Classes: []impl.Class{{Name: "any", Parent: -1}, {Name: "io", Parent: 0}, {Name: "letter", Parent: 1}}}
	if s := impl.TreeText(x); s != "any\nio any\nletter io\n" {
		t.Errorf("TreeText = %q", s)
	}
	if s := impl.TreeText(impl.Tree{Classes: x.Classes[:1]}); s != "any\n" {
		t.Errorf("TreeText of a root = %q", s)
	}
}

func TestP13TextsOfTreesAreWrittenBack(t *testing.T) {
	for _, x := range someTrees() {
		s := impl.TreeText(x)
		for i := range len(s) {
			for _, c := range []string{"", "\n", " ", "a", "b", "Z", "\x00"} {
				for _, rest := range []string{s[i:], s[i+1:]} {
					checkWrittenBack(t, s[:i]+c+rest)
				}
			}
			checkWrittenBack(t, s[:i])
		}
	}
}

// checkWrittenBack checks that a text is either that of its tree, or has none.
func checkWrittenBack(t *testing.T, s string) {
	t.Helper()
	x, ok := impl.ParseTree(s)
	if ok && impl.TreeText(x) != s || !ok && x.Classes != nil {
		t.Errorf("ParseTree(%q) = %v, %v, with the text %q", s, x, ok, impl.TreeText(x))
	}
}

func TestP13TextsWithoutTrees(t *testing.T) {
	for _, s := range []string{
		"", "\n", " ", " \n", "any", "any\n\n", "\nany\n", " any\n", "any \n", "any\r\n", "any -1\n", "any any\n", "any io\nio any\n",
		"any\nio any", "any\nio\n", "any\nio \n", "any\nio  any\n", "any\n io any\n", "any\nio any \n", "any\nio any any\n", "any\nio\tany\n", "any\nio any\n\n", "any\n\nio any\n",
		"any\nio io\n", "any\nio net\nnet any\n", "any\nio no\n", "any\nany any\n", "any\nio any\nio io\n", "any\nio any\nany io\n",
		"Any\n", "letters\n", "any\nletters any\n", "any\ni1 any\n", "any\nio Any\n", "\ufeffany\n", "any\nio any\x00\n", "any\nkéy any\n",
		"a\nb a\nc a\nd a\ne a\nf a\ng a\nh a\ni a\n", strings.Repeat("a\n", 100000), strings.Repeat("a", 100000) + "\n",
	} {
		if x, ok := impl.ParseTree(s); ok || x.Classes != nil {
			t.Errorf("ParseTree(%.50q) = %v, %v", s, x, ok)
		}
	}
	if x := mustParse(t, "a\nb a\nc b\nd c\ne d\nf e\ng f\nletter g\n"); len(x.Classes) != impl.MaxClasses || !same(impl.AboveOf(x, 7), []int{7, 6, 5, 4, 3, 2, 1, 0}) {
		t.Errorf("ParseTree of the most classes = %v", x)
	}
}

func TestP111NewClassesAreCaughtAsTheirParents(t *testing.T) {
	for _, x := range someTrees() {
		n := len(x.Classes)
		for p := range n {
			y, ok := impl.AddClass(x, "more", p)
			if !ok {
				continue
			}
			for _, list := range catchLists(x) {
				caught := impl.CaughtBy(y, list)
				if impl.FirstCatch(y, list, n) != impl.FirstCatch(x, list, p) || slices.Contains(caught, n) != slices.Contains(caught, p) {
					t.Errorf("%v catches %d and %d of %v otherwise", list, n, p, y)
				}
			}
		}
	}
}

// TestArgumentsStay checks that no function of classes changes its arguments, or what is behind them in memory.
func TestArgumentsStay(t *testing.T) {
	room := append(mustParse(t, house).Classes, impl.Class{Name: "spare", Parent: 0}, impl.Class{Name: "room", Parent: 0})
	classes := slices.Clone(room)
	list := []int{5, 3, 1, 0, 3, 1, 77}
	x, catches := impl.Tree{Classes: room[:6]}, list[:6]
	y, _ := impl.AddClass(x, "more", 3)
	z, _ := impl.AddClass(x, "other", 4)
	impl.FirstCatch(x, catches, 2)
	impl.DeadCatches(x, catches)
	impl.CaughtBy(x, catches)
	impl.LeastCatches(x, catches)
	if !same(room, classes) || !same(list, []int{5, 3, 1, 0, 3, 1, 77}) {
		t.Errorf("the arguments are now %v, %v", room, list)
	}
	y.Classes[0].Name, z.Classes[1].Name = "new", "newer"
	if y.Classes[6].Name != "more" || !same(room, classes) || z.Classes[0].Name != "any" {
		t.Errorf("results share memory: %v, %v, %v", room, y, z)
	}
	least := impl.LeastCatches(x, []int{3, 2})
	least[0] = 9
	if got := impl.LeastCatches(x, []int{3, 2}); !same(got, []int{2, 3}) {
		t.Errorf("LeastCatches once more = %v", got)
	}
}
