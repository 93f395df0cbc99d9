package tests

import (
	"slices"
	"strings"
	"testing"

	"loop.example/faultcleanup/impl"
)

// groupOf returns the parts of the group of a text with classes of house.
func groupOf(t *testing.T, s string) []impl.Part {
	t.Helper()
	g, ok := impl.ParseGroup(mustParse(t, house), s)
	if !ok {
		t.Fatalf("ParseGroup(%q) is false", s)
	}
	return g
}

// houseText returns the text of a group with classes of house; none if there is no group.
func houseText(t *testing.T, g []impl.Part) string {
	t.Helper()
	return impl.GroupText(mustParse(t, house), g)
}

// house1 is a group with all classes of house but wifi.
const house1 = "1(io:3 2(net:4 key:5) 3(disk:6) any:7)"

// everyGroup calls a function for some groups of some trees.
func everyGroup(do func(x impl.Tree, s shape, g []impl.Part)) {
	for _, x := range groupTrees() {
		shapes := fewShapes(len(x.Classes))
		if len(x.Classes) == 3 {
			shapes = someShapes(3)
		}
		for _, s := range shapes {
			do(x, s, s.parts())
		}
	}
}

func TestLimitsOfGroups(t *testing.T) {
	if impl.MaxParts != 16 || impl.MaxDepth != 5 {
		t.Errorf("MaxParts, MaxDepth = %d, %d", impl.MaxParts, impl.MaxDepth)
	}
}

func TestValidGroup(t *testing.T) {
	everyGroup(func(x impl.Tree, s shape, g []impl.Part) {
		if !impl.ValidGroup(x, g) {
			t.Errorf("ValidGroup(%v) is false", g)
		}
	})
	x := mustParse(t, house)
	for reason, g := range invalidGroups() {
		if impl.ValidGroup(x, g) {
			t.Errorf("ValidGroup is true: %s", reason)
		}
	}
	for reason, y := range invalidTrees() {
		for _, s := range []shape{leaf(0, 0), over(1, leaf(0, 0)), over(1, leaf(0, 1), over(2, leaf(0, 3)))} {
			if impl.ValidGroup(y, s.parts()) {
				t.Errorf("ValidGroup of an invalid tree is true: %s", reason)
			}
		}
	}
}

// TestValidGroupShapes tries all depths and kinds of up to 4 parts: those of shapes are groups, and no others.
func TestValidGroupShapes(t *testing.T) {
	x := mustParse(t, "any\n")
	const depths = 6
	for n := 1; n <= 4; n++ {
		shapes := bareShapes(n, impl.MaxDepth)
		found := 0
		for _, kinds := range listsOf(2*depths, n) {
			if len(kinds) != n {
				continue
			}
			var g []impl.Part
			for _, k := range kinds {
				g = append(g, impl.Part{Depth: k/2 - 1, Group: k%2 == 1})
			}
			has := slices.ContainsFunc(shapes, func(s shape) bool { return same(s.parts(), g) })
			if impl.ValidGroup(x, g) != has {
				t.Errorf("ValidGroup(%v) is %v", g, !has)
			}
			if has {
				found++
			}
		}
		if found != len(shapes) {
			t.Errorf("%d of %d shapes of %d parts were tried", found, len(shapes), n)
		}
	}
}

// checkNoGroup checks what each function returns if the tree or the parts are not valid.
func checkNoGroup(t *testing.T, reason string, x impl.Tree, g []impl.Part) {
	t.Helper()
	if impl.LeavesOf(x, g) != nil || impl.GroupDepth(x, g) != -1 || impl.GroupText(x, g) != "" {
		t.Errorf("LeavesOf, GroupDepth or GroupText has something: %s", reason)
	}
	if impl.KidsOf(x, g) != nil || impl.FlattenGroup(x, g) != nil || impl.SimplifyGroup(x, g) != nil {
		t.Errorf("KidsOf, FlattenGroup or SimplifyGroup has something: %s", reason)
	}
	for a := -1; a < 7; a++ {
		if impl.HasClass(x, g, a) {
			t.Errorf("HasClass(%d) is true: %s", a, reason)
		}
		if m, r := impl.SplitGroup(x, g, a); m != nil || r != nil {
			t.Errorf("SplitGroup(%d) = %v, %v: %s", a, m, r, reason)
		}
	}
	for _, list := range [][]int{nil, {0}, {1, 2}, {-1}} {
		if taken, rest := impl.HandleGroup(x, g, list); taken != nil || rest != nil {
			t.Errorf("HandleGroup(%v) = %v, %v: %s", list, taken, rest, reason)
		}
	}
	fine := leaf(0, 0).parts()
	for _, list := range [][][]impl.Part{{g}, {g, g}, {fine, g}, {g, fine}, {fine, g, fine}} {
		if w, ok := impl.WrapGroup(x, list, 1); ok || w != nil {
			t.Errorf("WrapGroup(%v) = %v, %v: %s", list, w, ok, reason)
		}
	}
}

func TestInvalidGroups(t *testing.T) {
	x := mustParse(t, house)
	for reason, g := range invalidGroups() {
		checkNoGroup(t, reason, x, g)
	}
}

func TestGroupsOfInvalidTrees(t *testing.T) {
	for reason, x := range invalidTrees() {
		for _, s := range []shape{leaf(0, 0), over(1, leaf(0, 1), over(2, leaf(0, 3)))} {
			checkNoGroup(t, reason, x, s.parts())
		}
		for _, name := range []string{"any", "io", "net", "a"} {
			for _, s := range []string{name + ":1", "1(" + name + ":1)", ""} {
				if g, ok := impl.ParseGroup(x, s); ok || g != nil {
					t.Errorf("ParseGroup(%q) = %v, %v: %s", s, g, ok, reason)
				}
			}
		}
		if w, ok := impl.WrapGroup(x, nil, 1); ok || w != nil {
			t.Errorf("WrapGroup of nothing = %v, %v: %s", w, ok, reason)
		}
	}
}

func TestP28GroupsHaveLeaves(t *testing.T) {
	everyGroup(func(x impl.Tree, s shape, g []impl.Part) {
		if len(impl.LeavesOf(x, g)) < 1 {
			t.Errorf("LeavesOf(%v) is empty", g)
		}
		kids := impl.KidsOf(x, g)
		if len(kids) != len(s.below) {
			t.Fatalf("KidsOf(%v) = %v", g, kids)
		}
		for i, kid := range kids {
			if !impl.ValidGroup(x, kid) || !same(kid, s.below[i].parts()) {
				t.Errorf("KidsOf(%v) has %v", g, kid)
			}
		}
	})
}

func TestP28KidsOfHouse(t *testing.T) {
	x := mustParse(t, house)
	for _, c := range []struct {
		text string
		want []string
	}{
		{"io:3", nil},
		{"1(io:3)", []string{"io:3"}},
		{"1(2(io:3))", []string{"2(io:3)"}},
		{"1(2(3(4(5(io:6)))))", []string{"2(3(4(5(io:6))))"}},
		{"1(io:3 io:3)", []string{"io:3", "io:3"}},
		{house1, []string{"io:3", "2(net:4 key:5)", "3(disk:6)", "any:7"}},
	} {
		var texts []string
		for _, kid := range impl.KidsOf(x, groupOf(t, c.text)) {
			texts = append(texts, impl.GroupText(x, kid))
		}
		if !same(texts, c.want) {
			t.Errorf("KidsOf(%q) = %q, want %q", c.text, texts, c.want)
		}
	}
}

func TestP29LeavesAreThoseOfWhatIsBelow(t *testing.T) {
	everyGroup(func(x impl.Tree, s shape, g []impl.Part) {
		leaves := impl.LeavesOf(x, g)
		if !same(leaves, s.leaves()) {
			t.Errorf("LeavesOf(%v) = %v, want %v", g, leaves, s.leaves())
		}
		kids := impl.KidsOf(x, g)
		var below []impl.Leaf
		for _, kid := range kids {
			below = append(below, impl.LeavesOf(x, kid)...)
		}
		if len(kids) > 0 && !same(leaves, below) {
			t.Errorf("LeavesOf(%v) = %v, but those of what is below are %v", g, leaves, below)
		}
	})
	want := []impl.Leaf{{Class: 1, Code: 3}, {Class: 3, Code: 4}, {Class: 2, Code: 5}, {Class: 4, Code: 6}, {Class: 0, Code: 7}}
	if got := impl.LeavesOf(mustParse(t, house), groupOf(t, house1)); !same(got, want) {
		t.Errorf("LeavesOf(%q) = %v, want %v", house1, got, want)
	}
}

func TestP30GroupsAreOneDeeperThanWhatIsBelow(t *testing.T) {
	everyGroup(func(x impl.Tree, s shape, g []impl.Part) {
		deepest := -1
		for _, kid := range impl.KidsOf(x, g) {
			deepest = max(deepest, impl.GroupDepth(x, kid))
		}
		if d := impl.GroupDepth(x, g); d != deepest+1 || d != s.depth() {
			t.Errorf("GroupDepth(%v) = %d, want %d", g, d, s.depth())
		}
	})
	for text, want := range map[string]int{"io:0": 0, "1(io:1)": 1, "1(io:1 io:2)": 1, "1(2(io:2) io:1)": 2, house1: 2, "1(2(3(4(5(io:6)))) io:1)": 5} {
		if d := impl.GroupDepth(mustParse(t, house), groupOf(t, text)); d != want {
			t.Errorf("GroupDepth(%q) = %d, want %d", text, d, want)
		}
	}
}

func TestP31ClassesOfGroupsAreThoseOfLeaves(t *testing.T) {
	everyGroup(func(x impl.Tree, s shape, g []impl.Part) {
		for a := range x.Classes {
			is := func(l impl.Leaf) bool { return impl.IsA(x, l.Class, a) }
			want := slices.ContainsFunc(s.leaves(), func(l impl.Leaf) bool { return isBelow(x, l.Class, a) })
			if got := impl.HasClass(x, g, a); got != want || got != slices.ContainsFunc(impl.LeavesOf(x, g), is) {
				t.Errorf("HasClass(%v, %d) = %v, want %v", g, a, got, want)
			}
		}
		if !impl.HasClass(x, g, 0) {
			t.Errorf("HasClass(%v) is false for the root", g)
		}
	})
}

func TestP31ClassesThatNothingHas(t *testing.T) {
	x := mustParse(t, house)
	for text, has := range map[string]string{
		"key:1":            "any key",
		"any:1":            "any",
		"wifi:1":           "any io net wifi",
		"1(net:1)":         "any io net",
		"1(2(3(disk:99)))": "any io disk",
		house1:             "any io key net disk",
		"1(any:0 any:1)":   "any",
		// A group has the Class 0, and its number is no class.
		"5(4(io:3) 2(io:2))": "any io",
	} {
		for a, c := range x.Classes {
			if want := slices.Contains(strings.Fields(has), c.Name); impl.HasClass(x, groupOf(t, text), a) != want {
				t.Errorf("HasClass(%q, %s) is not %v", text, c.Name, want)
			}
		}
		for _, a := range outside {
			if impl.HasClass(x, groupOf(t, text), a) {
				t.Errorf("HasClass(%q, %d) is true", text, a)
			}
		}
	}
}

// everySplit calls a function for both parts of SplitGroup of some groups and all classes.
func everySplit(do func(x impl.Tree, s shape, g []impl.Part, a int, m, r []impl.Part)) {
	everyGroup(func(x impl.Tree, s shape, g []impl.Part) {
		for a := range x.Classes {
			m, r := impl.SplitGroup(x, g, a)
			do(x, s, g, a, m, r)
		}
	})
}

// counted returns how often each leaf is in lists.
func counted(lists ...[]impl.Leaf) map[impl.Leaf]int {
	count := map[impl.Leaf]int{}
	for _, list := range lists {
		for _, l := range list {
			count[l]++
		}
	}
	return count
}

// sameCount reports whether leaves are in two lists as often.
func sameCount(a, b map[impl.Leaf]int) bool {
	for l, n := range a {
		if b[l] != n {
			return false
		}
	}
	return len(a) == len(b)
}

func TestP32GroupsAreSplitInTwo(t *testing.T) {
	everySplit(func(x impl.Tree, s shape, g []impl.Part, a int, m, r []impl.Part) {
		in, others := impl.LeavesOf(x, m), impl.LeavesOf(x, r)
		if !sameCount(counted(in, others), counted(s.leaves())) {
			t.Errorf("the leaves of SplitGroup(%v, %d) are %v and %v", g, a, in, others)
		}
		if !same(m, s.partsWith(x, a, true)) || !same(r, s.partsWith(x, a, false)) {
			t.Errorf("SplitGroup(%v, %d) = %v, %v", g, a, m, r)
		}
		for _, l := range in {
			if !impl.IsA(x, l.Class, a) {
				t.Errorf("SplitGroup(%v, %d) = %v, ..", g, a, m)
			}
		}
		if impl.HasClass(x, r, a) {
			t.Errorf("SplitGroup(%v, %d) = .., %v", g, a, r)
		}
		m1, m2 := impl.SplitGroup(x, m, a)
		r1, r2 := impl.SplitGroup(x, r, a)
		if !same(m1, m) || m2 != nil || r1 != nil || !same(r2, r) {
			t.Errorf("split again, %v is %v and %v, and %v is %v and %v", m, m1, m2, r, r1, r2)
		}
	})
}

func TestP32SplitGroupOfHouse(t *testing.T) {
	x := mustParse(t, house)
	for _, c := range []struct {
		text        string
		class       int
		match, rest string
	}{
		{house1, 0, house1, ""},
		{house1, 1, "1(io:3 2(net:4) 3(disk:6))", "1(2(key:5) any:7)"},
		{house1, 2, "1(2(key:5))", "1(io:3 2(net:4) 3(disk:6) any:7)"},
		{house1, 3, "1(2(net:4))", "1(io:3 2(key:5) 3(disk:6) any:7)"},
		{house1, 4, "1(3(disk:6))", "1(io:3 2(net:4 key:5) any:7)"},
		{house1, 5, "", house1},
		{"io:3", 0, "io:3", ""},
		{"io:3", 1, "io:3", ""},
		{"io:3", 3, "", "io:3"},
		{"net:3", 1, "net:3", ""},
		{"net:3", 2, "", "net:3"},
		{"1(net:3)", 1, "1(net:3)", ""},
		{"1(net:3)", 5, "", "1(net:3)"},
		{"1(2(3(net:3)))", 3, "1(2(3(net:3)))", ""},
		{"1(2(3(net:3) 4(key:4)))", 2, "1(2(4(key:4)))", "1(2(3(net:3)))"},
		{"1(io:1 key:1 io:1 key:1)", 1, "1(io:1 io:1)", "1(key:1 key:1)"},
		{"1(2(3(4(5(io:1 key:2)))))", 2, "1(2(3(4(5(key:2)))))", "1(2(3(4(5(io:1)))))"},
	} {
		m, r := impl.SplitGroup(x, groupOf(t, c.text), c.class)
		if houseText(t, m) != c.match || houseText(t, r) != c.rest || (c.match == "" && m != nil) || (c.rest == "" && r != nil) {
			t.Errorf("SplitGroup(%q, %d) = %v, %v", c.text, c.class, m, r)
		}
	}
	for _, text := range []string{"io:3", "1(io:3)", house1} {
		for _, a := range outside {
			if m, r := impl.SplitGroup(x, groupOf(t, text), a); m != nil || r != nil {
				t.Errorf("SplitGroup(%q, %d) = %v, %v", text, a, m, r)
			}
		}
	}
}

func TestP33PartsOfGroupsHaveTheirGroups(t *testing.T) {
	everySplit(func(x impl.Tree, s shape, g []impl.Part, a int, m, r []impl.Part) {
		if len(m) == 0 && len(r) == 0 {
			t.Errorf("SplitGroup(%v, %d) is nothing", g, a)
		}
		for _, p := range [][]impl.Part{m, r} {
			if len(p) == 0 {
				continue
			}
			if !impl.ValidGroup(x, p) || p[0] != g[0] || impl.GroupDepth(x, p) > impl.GroupDepth(x, g) {
				t.Errorf("SplitGroup(%v, %d) has %v", g, a, p)
			}
		}
	})
}

// everyHandle calls a function for HandleGroup of some groups with some lists of classes.
func everyHandle(do func(x impl.Tree, s shape, g []impl.Part, list []int, taken [][]impl.Part, rest []impl.Part)) {
	for _, x := range groupTrees() {
		for _, list := range catchLists(x) {
			for _, s := range fewShapes(len(x.Classes)) {
				g := s.parts()
				taken, rest := impl.HandleGroup(x, g, list)
				do(x, s, g, list, taken, rest)
			}
		}
	}
}

func TestP34AllLeavesAreTakenOrLeft(t *testing.T) {
	everyHandle(func(x impl.Tree, s shape, g []impl.Part, list []int, taken [][]impl.Part, rest []impl.Part) {
		if len(taken) != len(list) {
			t.Fatalf("HandleGroup(%v, %v) = %v, ..", g, list, taken)
		}
		all := [][]impl.Leaf{impl.LeavesOf(x, rest)}
		left, some := s, true
		for i, p := range taken {
			all = append(all, impl.LeavesOf(x, p))
			var want []impl.Part
			if some {
				want = left.partsWith(x, list[i], true)
				left, some = left.with(x, list[i], false)
			}
			if !same(p, want) {
				t.Errorf("HandleGroup(%v, %v) takes %v at %d, want %v", g, list, p, i, want)
			}
			if isCaught(x, list[:i], list[i]) && p != nil {
				t.Errorf("HandleGroup(%v, %v) takes %v at the dead %d", g, list, p, i)
			}
		}
		if some != (len(rest) > 0) || some && !same(rest, left.parts()) {
			t.Errorf("HandleGroup(%v, %v) leaves %v", g, list, rest)
		}
		if !sameCount(counted(all...), counted(s.leaves())) {
			t.Errorf("the leaves of HandleGroup(%v, %v) are %v", g, list, all)
		}
		for _, a := range list {
			if impl.HasClass(x, rest, a) {
				t.Errorf("HandleGroup(%v, %v) leaves %v", g, list, rest)
			}
		}
		for _, i := range impl.DeadCatches(x, list) {
			if taken[i] != nil {
				t.Errorf("HandleGroup(%v, %v) takes %v at the dead %d", g, list, taken[i], i)
			}
		}
	})
}

func TestP34HandleGroupOfHouse(t *testing.T) {
	x := mustParse(t, house)
	for _, c := range []struct {
		text  string
		list  []int
		taken []string
		rest  string
	}{
		{house1, nil, nil, house1},
		{"io:3", nil, nil, "io:3"},
		{house1, []int{5}, []string{""}, house1},
		{house1, []int{3, 1, 4}, []string{"1(2(net:4))", "1(io:3 3(disk:6))", ""}, "1(2(key:5) any:7)"},
		{house1, []int{1, 3, 2}, []string{"1(io:3 2(net:4) 3(disk:6))", "", "1(2(key:5))"}, "1(any:7)"},
		{house1, []int{0, 0, 1}, []string{house1, "", ""}, ""},
		{house1, []int{2, 4, 5, 3, 1, 0}, []string{"1(2(key:5))", "1(3(disk:6))", "", "1(2(net:4))", "1(io:3)", "1(any:7)"}, ""},
		{"io:3", []int{2, 3, 1, 0}, []string{"", "", "io:3", ""}, ""},
		{"io:3", []int{2, 3, 5}, []string{"", "", ""}, "io:3"},
		{"1(wifi:3)", []int{2, 5}, []string{"", "1(wifi:3)"}, ""},
	} {
		taken, rest := impl.HandleGroup(x, groupOf(t, c.text), c.list)
		var texts []string
		for _, p := range taken {
			texts = append(texts, houseText(t, p))
		}
		if !same(texts, c.taken) || houseText(t, rest) != c.rest {
			t.Errorf("HandleGroup(%q, %v) = %q, %q", c.text, c.list, texts, houseText(t, rest))
		}
	}
	for _, list := range badLists() {
		for _, text := range []string{"io:3", house1} {
			if taken, rest := impl.HandleGroup(x, groupOf(t, text), list); taken != nil || rest != nil {
				t.Errorf("HandleGroup(%q, %v) = %v, %v", text, list, taken, rest)
			}
		}
	}
}

func TestP35WhatIsBelowIsWrappedAgain(t *testing.T) {
	everyGroup(func(x impl.Tree, s shape, g []impl.Part) {
		w, ok := impl.WrapGroup(x, impl.KidsOf(x, g), g[0].Code)
		if g[0].Group && (!ok || !same(w, g)) {
			t.Errorf("WrapGroup of KidsOf(%v) = %v, %v", g, w, ok)
		}
		if !g[0].Group && (ok || w != nil) {
			t.Errorf("WrapGroup of KidsOf(%v), a leaf, = %v, %v", g, w, ok)
		}
	})
}

// shapeLists returns lists of shapes with n classes: all of up to 3 out of some, and longer ones.
func shapeLists(n int) [][]shape {
	some := []shape{leaf(0, 0), leaf(n-1, 99), over(5, leaf(n-1, 3)), over(0, over(99, leaf(0, 1)), leaf(n/2, 2)), nest(4, leaf(n-1, 4)), nest(5, leaf(0, 5))}
	var out [][]shape
	for _, list := range listsOf(len(some), 3) {
		var shapes []shape
		for _, i := range list {
			shapes = append(shapes, some[i])
		}
		out = append(out, shapes)
	}
	for size := 1; size <= 17; size++ {
		out = append(out, slices.Repeat([]shape{leaf(n-1, size)}, size), slices.Repeat([]shape{over(size, leaf(0, 1))}, size))
	}
	return out
}

func TestP36WrappedGroupsHaveWhatIsBelow(t *testing.T) {
	for _, x := range groupTrees() {
		for _, shapes := range shapeLists(len(x.Classes)) {
			s := over(0, shapes...)
			var list [][]impl.Part
			for _, b := range shapes {
				list = append(list, b.parts())
			}
			want := len(shapes) > 0 && s.depth() <= 5 && len(s.parts()) <= 16
			for _, code := range []int{0, 1, 99} {
				s.code = code
				w, ok := impl.WrapGroup(x, list, code)
				if ok != want || ok && (!same(w, s.parts()) || !sameGroups(impl.KidsOf(x, w), list)) {
					t.Errorf("WrapGroup(%v, %d) = %v, %v", list, code, w, ok)
				}
				if !ok && w != nil {
					t.Errorf("WrapGroup(%v, %d) = %v, false", list, code, w)
				}
			}
			for _, code := range append([]int{-1, 100}, far...) {
				if w, ok := impl.WrapGroup(x, list, code); ok || w != nil {
					t.Errorf("WrapGroup(%v, %d) = %v, %v", list, code, w, ok)
				}
			}
		}
	}
}

func TestP36WhatCannotBeWrapped(t *testing.T) {
	x := mustParse(t, house)
	fine := leaf(1, 1).parts()
	for reason, list := range map[string][][]impl.Part{
		"nothing":              {},
		"a group of nothing":   {nil},
		"nothing behind":       {fine, nil},
		"nothing ahead":        {nil, fine},
		"two leaves as one":    {slices.Concat(fine, fine)},
		"a deeper leaf":        {leaf(1, 1).partsAt(1)},
		"a deeper group":       {over(1, leaf(1, 1)).partsAt(1)},
		"a group in pieces":    {{{Group: true}}, leaf(1, 1).partsAt(1)},
		"a leaf ahead of all":  {leaf(1, 1).partsAt(-1)},
		"a class of no leaf":   {fine, leaf(6, 1).parts()},
		"17 parts":             {over(1, leaf(1, 1), leaf(1, 1)).parts(), over(1, slices.Repeat([]shape{leaf(1, 1)}, 12)...).parts()},
		"7 depths behind":      {fine, nest(5, leaf(1, 1)).parts()},
		"a leaf with a depth":  {fine, {{Depth: 1 << 62}}},
		"a leaf with no depth": {fine, {{Depth: 1<<63 - 1}}},
	} {
		if w, ok := impl.WrapGroup(x, list, 1); ok || w != nil {
			t.Errorf("WrapGroup = %v, %v: %s", w, ok, reason)
		}
	}
}

func TestP37FlatGroupsHaveTheSameLeaves(t *testing.T) {
	everyGroup(func(x impl.Tree, s shape, g []impl.Part) {
		f := impl.FlattenGroup(x, g)
		if !same(f, s.flat().parts()) || f[0] != g[0] {
			t.Errorf("FlattenGroup(%v) = %v", g, f)
		}
		if !same(impl.LeavesOf(x, f), impl.LeavesOf(x, g)) || impl.GroupDepth(x, f) > 1 || !same(impl.FlattenGroup(x, f), f) {
			t.Errorf("FlattenGroup(%v) = %v has other leaves, or is not flat", g, f)
		}
	})
	for text, want := range map[string]string{
		"io:1":                      "io:1",
		"1(io:1)":                   "1(io:1)",
		"1(2(3(io:1)))":             "1(io:1)",
		house1:                      "1(io:3 net:4 key:5 disk:6 any:7)",
		"1(2(3(4(5(io:6)))) key:7)": "1(io:6 key:7)",
		"1(2(io:1) 2(io:1))":        "1(io:1 io:1)",
	} {
		if got := houseText(t, impl.FlattenGroup(mustParse(t, house), groupOf(t, text))); got != want {
			t.Errorf("FlattenGroup(%q) = %q, want %q", text, got, want)
		}
	}
}

// hasGroupOfOne reports whether a group, or one below it, has just one right below it.
func hasGroupOfOne(x impl.Tree, g []impl.Part) bool {
	kids := impl.KidsOf(x, g)
	return len(kids) == 1 || slices.ContainsFunc(kids, func(kid []impl.Part) bool { return hasGroupOfOne(x, kid) })
}

func TestP38SimpleGroupsHaveNoGroupsOfOne(t *testing.T) {
	everyGroup(func(x impl.Tree, s shape, g []impl.Part) {
		p := impl.SimplifyGroup(x, g)
		if !same(p, s.simple().parts()) {
			t.Errorf("SimplifyGroup(%v) = %v", g, p)
		}
		if !impl.ValidGroup(x, p) || !same(impl.LeavesOf(x, p), impl.LeavesOf(x, g)) || hasGroupOfOne(x, p) || !same(impl.SimplifyGroup(x, p), p) {
			t.Errorf("SimplifyGroup(%v) = %v has other leaves, or is not simple", g, p)
		}
	})
	for text, want := range map[string]string{
		"io:1":                      "io:1",
		"1(io:1)":                   "io:1",
		"1(2(3(4(5(io:6)))))":       "io:6",
		"1(io:1 key:2)":             "1(io:1 key:2)",
		"1(2(io:1 key:2))":          "2(io:1 key:2)",
		"1(2(io:1) key:2)":          "1(io:1 key:2)",
		house1:                      "1(io:3 2(net:4 key:5) disk:6 any:7)",
		"1(2(3(io:1) 4(5(key:2))))": "2(io:1 key:2)",
		"1(2(3(io:1 key:2)) io:3)":  "1(3(io:1 key:2) io:3)",
	} {
		if got := houseText(t, impl.SimplifyGroup(mustParse(t, house), groupOf(t, text))); got != want {
			t.Errorf("SimplifyGroup(%q) = %q, want %q", text, got, want)
		}
	}
}

func TestP39GroupsAreReadBack(t *testing.T) {
	everyGroup(func(x impl.Tree, s shape, g []impl.Part) {
		text := impl.GroupText(x, g)
		if text != s.text(x) {
			t.Errorf("GroupText(%v) = %q, want %q", g, text, s.text(x))
		}
		if h, ok := impl.ParseGroup(x, text); !ok || !same(h, g) {
			t.Errorf("ParseGroup(%q) = %v, %v", text, h, ok)
		}
	})
	x := mustParse(t, house)
	for class, c := range x.Classes {
		for code := range 100 {
			for _, s := range []shape{leaf(class, code), over(code, leaf(class, code))} {
				g, ok := impl.ParseGroup(x, s.text(x))
				if !ok || !same(g, s.parts()) || impl.GroupText(x, g) != s.text(x) {
					t.Errorf("a group of %s:%d is read back as %v, %v", c.Name, code, g, ok)
				}
			}
		}
	}
}

// checkGroupText checks that a text without a group has none, and that one with a group is its text.
func checkGroupText(t *testing.T, x impl.Tree, s string) {
	t.Helper()
	g, ok := impl.ParseGroup(x, s)
	if ok && (!impl.ValidGroup(x, g) || impl.GroupText(x, g) != s) || !ok && g != nil {
		t.Errorf("ParseGroup(%q) = %v, %v", s, g, ok)
	}
}

func TestP40TextsOfGroupsAreWrittenBack(t *testing.T) {
	x := mustParse(t, "a\nb a\n")
	const letters = "ab:10( )"
	for _, list := range listsOf(len(letters), 6) {
		s := ""
		for _, i := range list {
			s += letters[i : i+1]
		}
		checkGroupText(t, x, s)
	}
	h := mustParse(t, house)
	for _, s := range []string{"io:30", "1(io:3)", house1, "1(2(3(4(5(io:6)))) key:7)"} {
		for i := range len(s) + 1 {
			for c := range 256 {
				checkGroupText(t, h, s[:i]+string([]byte{byte(c)})+s[i:])
				checkGroupText(t, h, s[:i]+string([]byte{byte(c)})+s[min(i+1, len(s)):])
			}
			checkGroupText(t, h, s[:i]+s[min(i+1, len(s)):])
			checkGroupText(t, h, s[:i]+s[min(i+2, len(s)):])
			checkGroupText(t, h, s[i:])
			checkGroupText(t, h, s[:i])
		}
	}
}

func TestP40TextsWithoutGroups(t *testing.T) {
	x := mustParse(t, house)
	leaves := strings.Repeat(" io:1", 15)[1:]
	for _, s := range []string{
		"", " ", "io", "io:", ":1", ":", "1", "no:1", "IO:1", "io:1 ", " io:1", "io:1\n", "io :1", "io: 1", "io:-1", "io:+1", "io:01", "io:00", "io:100", "io:1:1", "io::1", "io:x", "io:0x1", "io:1_0",
		"io:99999999999999999999", "io:18446744073709551617", "io:1 io:2", "io:1(", "io:1)", "io:1()", "io:1(io:1)",
		"()", "(", ")", ")(", "1()", "1(", "1)", "1( )", "(io:1)", "1(io:1", "1io:1)", "1(io:1))", "1((io:1))", "1(io:1)(io:2)", "1(io:1)2(io:2)", "1(io:1) 2(io:2)", "1(io:1) io:2", "1(io:1)io:2",
		"1(io:1  io:2)", "1( io:1)", "1(io:1 )", "1 (io:1)", "1(io:1,io:2)", "1(io:1io:2)", "1(2(io:1)io:2)", "1(io:1 2())", "1(2() io:1)", "1(1)", "1(io)", "1(no:1)", "1(io:1 2)",
		"01(io:1)", "+1(io:1)", "-1(io:1)", "100(io:1)", "x(io:1)", "io(io:1)", "io:1(io:1)", "1:1(io:1)", "0x1(io:1)", "1(io:01)", "1(io:100)", "1(02(io:1))",
		"1(2(3(4(5(6(io:1))))))", "1(2(3(4(5(6(7(io:1)))))))", "1(" + leaves + " io:1)", "1(" + leaves + " 2(io:1))", "1(" + leaves + " ", "1(" + leaves + ")" + strings.Repeat(" io:1", 9),
		strings.Repeat("1(", 100000), strings.Repeat("(", 100000), strings.Repeat(")", 100000), strings.Repeat("1(", 100000) + "io:1" + strings.Repeat(")", 100000), strings.Repeat("9", 100000),
		"1(io:1\x00)", "1(io:1\t)", "1(io:1\xff io:2)", "\u00e9:1", "1(\u00e9:1)", "1\uff08io:1)",
	} {
		if g, ok := impl.ParseGroup(x, s); ok || g != nil {
			t.Errorf("ParseGroup(%.60q) = %v, %v", s, g, ok)
		}
	}
	if g, ok := impl.ParseGroup(x, "1("+leaves+")"); !ok || len(g) != 16 {
		t.Errorf("ParseGroup of the most parts = %v, %v", g, ok)
	}
	if g, ok := impl.ParseGroup(impl.Tree{Classes: x.Classes[:1]}, "1(any:1 io:1)"); ok || g != nil {
		t.Errorf("ParseGroup of a class of another tree = %v, %v", g, ok)
	}
}

func TestP100SplitLeavesComeInOrder(t *testing.T) {
	everySplit(func(x impl.Tree, s shape, g []impl.Part, a int, m, r []impl.Part) {
		var in, others []impl.Leaf
		for _, l := range impl.LeavesOf(x, g) {
			if impl.IsA(x, l.Class, a) {
				in = append(in, l)
			} else {
				others = append(others, l)
			}
		}
		if !same(impl.LeavesOf(x, m), in) || !same(impl.LeavesOf(x, r), others) {
			t.Errorf("SplitGroup(%v, %d) = %v, %v has other leaves than %v and %v", g, a, m, r, in, others)
		}
	})
}

func TestP101LeastCatchesLeaveTheSame(t *testing.T) {
	everyHandle(func(x impl.Tree, s shape, g []impl.Part, list []int, _ [][]impl.Part, rest []impl.Part) {
		least := impl.LeastCatches(x, list)
		if taken, left := impl.HandleGroup(x, g, least); len(taken) != len(least) || !same(left, rest) {
			t.Errorf("HandleGroup(%v) leaves %v with %v, but %v with %v", g, rest, list, left, least)
		}
	})
}

func TestP102FlatGroupsAreSplitAlike(t *testing.T) {
	everySplit(func(x impl.Tree, s shape, g []impl.Part, a int, m, r []impl.Part) {
		fm, fr := impl.SplitGroup(x, impl.FlattenGroup(x, g), a)
		if !same(fm, impl.FlattenGroup(x, m)) || !same(fr, impl.FlattenGroup(x, r)) {
			t.Errorf("FlattenGroup(%v), split by %d, is %v and %v", g, a, fm, fr)
		}
	})
}

// TestGroupsStay checks that no function of groups changes its arguments, and that no two results share memory with them or with each other.
func TestGroupsStay(t *testing.T) {
	x := mustParse(t, house)
	for _, text := range []string{"io:3", "1(io:3)", "1(io:3 key:4)", house1, "1(2(3(io:4)) 2(key:5) 3(net:6))"} {
		n := len(groupOf(t, text))
		room := append(groupOf(t, text), impl.Part{Code: 77}, impl.Part{Code: 88})
		before := slices.Clone(room)
		g := room[:n]
		catches := []int{3, 2, 3, 0, 77}
		var results [][]impl.Part
		add := func(list ...[]impl.Part) { results = append(results, list...) }
		m, r := impl.SplitGroup(x, g, 1)
		whole, _ := impl.SplitGroup(x, g, 0)
		_, none := impl.SplitGroup(x, g, 5)
		taken, rest := impl.HandleGroup(x, g, catches[:4])
		_, left := impl.HandleGroup(x, g, nil)
		kids := impl.KidsOf(x, g)
		w, _ := impl.WrapGroup(x, [][]impl.Part{g, g}, 1)
		v, _ := impl.WrapGroup(x, [][]impl.Part{g}, 1)
		add(m, r, whole, none, rest, left, w, v, impl.FlattenGroup(x, g), impl.SimplifyGroup(x, g))
		add(taken...)
		add(kids...)
		impl.LeavesOf(x, g)
		impl.GroupText(x, g)
		if !same(room, before) || !same(catches, []int{3, 2, 3, 0, 77}) {
			t.Errorf("the arguments are now %v, %v", room, catches)
		}
		var copies [][]impl.Part
		for _, p := range results {
			copies = append(copies, slices.Clone(p))
		}
		for i, p := range results {
			more := p[:cap(p)]
			for j := range more {
				more[j] = impl.Part{Depth: 4, Code: 44}
			}
			if !same(room, before) || !sameGroups(results[i+1:], copies[i+1:]) {
				t.Fatalf("result %d of %q shares memory", i, text)
			}
		}
	}
}
