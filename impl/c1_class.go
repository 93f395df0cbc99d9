package impl

import (
	"slices"
	"strings"
)

// MaxName is the largest number of letters of a name.
const MaxName = 6

// MaxClasses is the largest number of classes of a tree.
const MaxClasses = 8

// MaxCatches is the largest number of classes that are caught.
const MaxCatches = 6

// Class is a class of faults: its name, and the class above it.
type Class struct {
	Name   string
	Parent int
}

// Tree is a tree of classes.
type Tree struct {
	Classes []Class
}

// catcher is what faults of some classes stop at.
type catcher interface {
	catches(c *node) bool
}

// node is a class that hangs on its parent; the root hangs on nothing.
type node struct {
	index  int
	parent *node
}

// catches reports whether the class c is the class n, or below it.
func (n *node) catches(c *node) bool {
	for ; c != nil; c = c.parent {
		if c == n {
			return true
		}
	}
	return false
}

// handlers are classes that are caught, in the order in which they are asked.
type handlers []*node

// first returns the index of the first handler that catches the class c; -1 if there is none.
func (h handlers) first(c *node) int {
	return slices.IndexFunc(h, func(n *node) bool { return n.catches(c) })
}

// catches reports whether one of the handlers catches the class c.
func (h handlers) catches(c *node) bool {
	return h.first(c) >= 0
}

// nodesOf returns a node for each class of a tree; none if the tree is not valid.
func nodesOf(t Tree) []*node {
	if !ValidTree(t) {
		return nil
	}
	nodes := make([]*node, len(t.Classes))
	for i, c := range t.Classes {
		nodes[i] = &node{index: i}
		if c.Parent >= 0 {
			nodes[i].parent = nodes[c.Parent]
		}
	}
	return nodes
}

// nodeAt returns the node of an index; nil if there is none.
func nodeAt(nodes []*node, i int) *node {
	if i < 0 || i >= len(nodes) {
		return nil
	}
	return nodes[i]
}

// handlersOf returns the handlers of a list of classes, and whether the tree and the list are valid.
func handlersOf(nodes []*node, list []int) (handlers, bool) {
	if len(nodes) == 0 || len(list) > MaxCatches {
		return nil, false
	}
	h := make(handlers, len(list))
	for i, a := range list {
		h[i] = nodeAt(nodes, a)
		if h[i] == nil {
			return nil, false
		}
	}
	return h, true
}

// caughtAt returns the classes that stop at a catcher, ascending.
func caughtAt(nodes []*node, by catcher) []int {
	var out []int
	for _, c := range nodes {
		if by.catches(c) {
			out = append(out, c.index)
		}
	}
	return out
}

// validName reports whether a name has 1..MaxName letters from a to z.
func validName(name string) bool {
	if len(name) < 1 || len(name) > MaxName {
		return false
	}
	for i := range len(name) {
		if name[i] < 'a' || name[i] > 'z' {
			return false
		}
	}
	return true
}

// indexOfName returns the index of the class with a name; -1 if there is none.
func indexOfName(classes []Class, name string) int {
	return slices.IndexFunc(classes, func(c Class) bool { return c.Name == name })
}

// ValidTree reports whether a tree of classes is valid.
func ValidTree(t Tree) bool {
	if len(t.Classes) < 1 || len(t.Classes) > MaxClasses {
		return false
	}
	for i, c := range t.Classes {
		if !validName(c.Name) || indexOfName(t.Classes, c.Name) != i {
			return false
		}
		isRoot := c.Parent == -1
		if isRoot != (i == 0) || c.Parent < -1 || c.Parent >= i {
			return false
		}
	}
	return true
}

// ClassNamed returns the class of a name.
func ClassNamed(t Tree, name string) int {
	if !ValidTree(t) {
		return -1
	}
	return indexOfName(t.Classes, name)
}

// IsA reports whether a class is another one, or below it.
func IsA(t Tree, a int, b int) bool {
	nodes := nodesOf(t)
	c, above := nodeAt(nodes, a), nodeAt(nodes, b)
	return c != nil && above != nil && above.catches(c)
}

// AboveOf returns a class and those above it.
func AboveOf(t Tree, a int) []int {
	var out []int
	for c := nodeAt(nodesOf(t), a); c != nil; c = c.parent {
		out = append(out, c.index)
	}
	return out
}

// BelowOf returns a class and those below it.
func BelowOf(t Tree, a int) []int {
	nodes := nodesOf(t)
	c := nodeAt(nodes, a)
	if c == nil {
		return nil
	}
	return caughtAt(nodes, c)
}

// CommonClass returns the lowest class above two classes.
func CommonClass(t Tree, a int, b int) int {
	nodes := nodesOf(t)
	other := nodeAt(nodes, b)
	for c := nodeAt(nodes, a); c != nil; c = c.parent {
		if c.catches(other) {
			return c.index
		}
	}
	return -1
}

// AddClass returns a tree with one more class.
func AddClass(t Tree, name string, parent int) (Tree, bool) {
	if !ValidTree(t) {
		return Tree{}, false
	}
	more := Tree{Classes: slices.Concat(t.Classes, []Class{{Name: name, Parent: parent}})}
	if !ValidTree(more) {
		return Tree{}, false
	}
	return more, true
}

// FirstCatch returns the first class that catches a class.
func FirstCatch(t Tree, list []int, a int) int {
	nodes := nodesOf(t)
	h, ok := handlersOf(nodes, list)
	c := nodeAt(nodes, a)
	if !ok || c == nil {
		return -2
	}
	return h.first(c)
}

// DeadCatches returns the classes that never catch.
func DeadCatches(t Tree, list []int) []int {
	h, ok := handlersOf(nodesOf(t), list)
	if !ok {
		return nil
	}
	var out []int
	for i, c := range h {
		if h[:i].catches(c) {
			out = append(out, i)
		}
	}
	return out
}

// CaughtBy returns the classes that are caught.
func CaughtBy(t Tree, list []int) []int {
	nodes := nodesOf(t)
	h, ok := handlersOf(nodes, list)
	if !ok {
		return nil
	}
	return caughtAt(nodes, h)
}

// LeastCatches returns the fewest classes that catch the same.
func LeastCatches(t Tree, list []int) []int {
	h, ok := handlersOf(nodesOf(t), list)
	if !ok {
		return nil
	}
	var out []int
	for _, c := range h {
		// The root has no parent, and no handler catches that.
		if !h.catches(c.parent) {
			out = append(out, c.index)
		}
	}
	slices.Sort(out)
	return slices.Compact(out)
}

// TreeText returns the text of a tree.
func TreeText(t Tree) string {
	if !ValidTree(t) {
		return ""
	}
	var b strings.Builder
	for _, c := range t.Classes {
		b.WriteString(c.Name)
		if c.Parent >= 0 {
			b.WriteString(" " + t.Classes[c.Parent].Name)
		}
		b.WriteString("\n")
	}
	return b.String()
}

// ParseTree returns the tree of a text.
func ParseTree(s string) (Tree, bool) {
	var t Tree
	for rest := s; rest != ""; {
		if len(t.Classes) == MaxClasses {
			return Tree{}, false
		}
		var line string
		line, rest, _ = strings.Cut(rest, "\n")
		t.Classes = append(t.Classes, parseClass(t.Classes, line))
	}
	// What a line says wrongly is not in the tree, so that the text of the tree differs.
	if !ValidTree(t) || TreeText(t) != s {
		return Tree{}, false
	}
	return t, true
}

// parseClass returns the class of a line behind the classes of the lines ahead; its Parent is -1 if there is none of the name.
func parseClass(ahead []Class, line string) Class {
	name, parent, _ := strings.Cut(line, " ")
	return Class{Name: name, Parent: indexOfName(ahead, parent)}
}
