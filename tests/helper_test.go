package tests

import (
	"slices"
	"testing"

	"loop.example/faultcleanup/impl"
)

// mustParse returns the tree of a text that is one.
func mustParse(t *testing.T, s string) impl.Tree {
	t.Helper()
	x, ok := impl.ParseTree(s)
	if !ok {
		t.Fatalf("ParseTree(%q) is false", s)
	}
	return x
}

// same reports whether two lists have the same elements; nil and empty are the same.
func same[T comparable](a, b []T) bool {
	return slices.Equal(a, b)
}

// treesOf returns all trees of n classes, which are named a, b, and so on.
func treesOf(n int) []impl.Tree {
	list := []impl.Tree{{Classes: []impl.Class{{Name: "a", Parent: -1}}}}
	for i := 1; i < n; i++ {
		var next []impl.Tree
		for _, x := range list {
			for p := range i {
				c := impl.Class{Name: string(rune('a' + i)), Parent: p}
				next = append(next, impl.Tree{Classes: append(slices.Clone(x.Classes), c)})
			}
		}
		list = next
	}
	return list
}

// someTrees returns all trees of up to 5 classes, and some of the most classes: a line, a star, and two in between.
func someTrees() []impl.Tree {
	var list []impl.Tree
	for n := 1; n <= 5; n++ {
		list = append(list, treesOf(n)...)
	}
	for _, parents := range [][]int{
		{-1, 0, 1, 2, 3, 4, 5, 6},
		{-1, 0, 0, 0, 0, 0, 0, 0},
		{-1, 0, 0, 1, 1, 2, 2, 3},
		{-1, 0, 1, 0, 3, 3, 2, 6},
	} {
		list = append(list, treeOf(parents))
	}
	return list
}

// treeOf returns the tree of parents, with names of one letter up to six.
func treeOf(parents []int) impl.Tree {
	var x impl.Tree
	for i, p := range parents {
		name := string(slices.Repeat([]byte{byte('a' + i)}, 1+i%6))
		x.Classes = append(x.Classes, impl.Class{Name: name, Parent: p})
	}
	return x
}

// listsOf returns all lists of up to most of the numbers from 0 to n-1, the one of nothing first.
func listsOf(n, most int) [][]int {
	all := [][]int{nil}
	last := all
	for range most {
		var next [][]int
		for _, list := range last {
			for a := range n {
				next = append(next, append(slices.Clone(list), a))
			}
		}
		all = append(all, next...)
		last = next
	}
	return all
}

// catchLists returns lists of classes of a tree: all short ones, and some of the most classes.
func catchLists(x impl.Tree) [][]int {
	n := len(x.Classes)
	list := listsOf(n, 2)
	if n <= 4 {
		list = listsOf(n, 4)
	}
	for _, long := range [][]int{{7, 6, 5, 4, 3, 2}, {1, 1, 0, 0, 2, 2}, {3, 4, 3, 1, 5, 1}, {6, 3, 2, 6, 1, 7}} {
		for i := range long {
			long[i] %= n
		}
		list = append(list, long)
	}
	return list
}

// isBelow walks up from the class a and reports whether b is on the way.
func isBelow(x impl.Tree, a, b int) bool {
	for a != b && a >= 0 {
		a = x.Classes[a].Parent
	}
	return a >= 0 && a == b
}

// isCaught reports whether the class a is below one of a list.
func isCaught(x impl.Tree, list []int, a int) bool {
	return slices.ContainsFunc(list, func(b int) bool { return isBelow(x, a, b) })
}

// invalidTrees returns trees that are not valid, each for one reason alone, by that reason.
func invalidTrees() map[string]impl.Tree {
	out := map[string]impl.Tree{
		"no classes":             {},
		"root below itself":      {Classes: []impl.Class{{Name: "any", Parent: 0}}},
		"root below -2":          {Classes: []impl.Class{{Name: "any", Parent: -2}}},
		"root below a later one": {Classes: []impl.Class{{Name: "any", Parent: 1}, {Name: "io", Parent: 0}}},
		"too many classes":       treeOf([]int{-1, 0, 0, 0, 0, 0, 0, 0, 0}),
	}
	for reason, parent := range map[string]int{"two roots": -1, "parent -2": -2, "below itself": 1, "below the next one": 2, "below none": 9} {
		out[reason] = impl.Tree{Classes: []impl.Class{{Name: "any", Parent: -1}, {Name: "io", Parent: parent}, {Name: "net", Parent: 0}}}
	}
	for _, name := range badNames {
		out["root named "+name] = impl.Tree{Classes: []impl.Class{{Name: name, Parent: -1}, {Name: "io", Parent: 0}}}
		out["last one named "+name] = impl.Tree{Classes: []impl.Class{{Name: "any", Parent: -1}, {Name: "io", Parent: 0}, {Name: name, Parent: 1}}}
	}
	out["a name twice"] = impl.Tree{Classes: []impl.Class{{Name: "any", Parent: -1}, {Name: "io", Parent: 0}, {Name: "io", Parent: 1}}}
	out["the root's name twice"] = impl.Tree{Classes: []impl.Class{{Name: "any", Parent: -1}, {Name: "io", Parent: 0}, {Name: "any", Parent: 1}}}
	return out
}

// badNames are no names: none, too long ones, and ones with something else than letters from a to z.
var badNames = []string{"", "letters", "Io", "iO", "i o", " io", "io ", "i`", "i{", "i1", "i\n", "i\x00", "\xff", "é", "io:"}
