package tests

import (
	"slices"
	"strconv"
	"strings"

	"loop.example/faultcleanup/impl"
)

// shape is a group with what is right below it, or a leaf, below which is nothing.
type shape struct {
	class, code int
	below       []shape
}

// leaf returns a leaf.
func leaf(class, code int) shape {
	return shape{class: class, code: code}
}

// over returns a group.
func over(code int, below ...shape) shape {
	return shape{code: code, below: below}
}

// isLeaf reports whether nothing is below a shape.
func (s shape) isLeaf() bool {
	return len(s.below) == 0
}

// partsAt returns the parts of a shape at a depth.
func (s shape) partsAt(depth int) []impl.Part {
	if s.isLeaf() {
		return []impl.Part{{Depth: depth, Class: s.class, Code: s.code}}
	}
	list := []impl.Part{{Depth: depth, Group: true, Code: s.code}}
	for _, b := range s.below {
		list = append(list, b.partsAt(depth+1)...)
	}
	return list
}

// parts returns the parts of a shape.
func (s shape) parts() []impl.Part {
	return s.partsAt(0)
}

// text returns the text of a shape.
func (s shape) text(x impl.Tree) string {
	if s.isLeaf() {
		return x.Classes[s.class].Name + ":" + strconv.Itoa(s.code)
	}
	var b strings.Builder
	b.WriteString(strconv.Itoa(s.code))
	for i, k := range s.below {
		b.WriteByte("( "[min(i, 1)])
		b.WriteString(k.text(x))
	}
	return b.String() + ")"
}

// leaves returns the leaves of a shape, in order.
func (s shape) leaves() []impl.Leaf {
	if s.isLeaf() {
		return []impl.Leaf{{Class: s.class, Code: s.code}}
	}
	var list []impl.Leaf
	for _, b := range s.below {
		list = append(list, b.leaves()...)
	}
	return list
}

// depth returns how deep a shape is.
func (s shape) depth() int {
	d := 0
	for _, b := range s.below {
		d = max(d, 1+b.depth())
	}
	return d
}

// with returns a shape with just the leaves of the class a, or just the others; false if there are none.
func (s shape) with(x impl.Tree, a int, is bool) (shape, bool) {
	if s.isLeaf() {
		return s, isBelow(x, s.class, a) == is
	}
	var list []shape
	for _, b := range s.below {
		if k, ok := b.with(x, a, is); ok {
			list = append(list, k)
		}
	}
	return over(s.code, list...), len(list) > 0
}

// partsWith returns the parts of a shape with just the leaves of the class a, or just the others; none if there are none.
func (s shape) partsWith(x impl.Tree, a int, is bool) []impl.Part {
	k, ok := s.with(x, a, is)
	if !ok {
		return nil
	}
	return k.parts()
}

// flat returns a shape with all leaves right below it.
func (s shape) flat() shape {
	if s.isLeaf() {
		return s
	}
	var list []shape
	for _, l := range s.leaves() {
		list = append(list, leaf(l.Class, l.Code))
	}
	return over(s.code, list...)
}

// simple returns a shape without groups of one.
func (s shape) simple() shape {
	if len(s.below) == 1 {
		return s.below[0].simple()
	}
	var list []shape
	for _, b := range s.below {
		list = append(list, b.simple())
	}
	return shape{class: s.class, code: s.code, below: list}
}

// dress gives all parts of a shape, in order, new codes, and the leaves new classes.
func (s *shape) dress(class, code func() int) {
	s.code = code()
	if s.isLeaf() {
		s.class = class()
	}
	s.below = slices.Clone(s.below)
	for i := range s.below {
		s.below[i].dress(class, code)
	}
}

// rows returns all lists of shapes that have n parts together, none of them deeper than depth.
func rows(n, depth int) [][]shape {
	if n == 0 {
		return [][]shape{nil}
	}
	var list [][]shape
	for first := 1; first <= n; first++ {
		for _, s := range bareShapes(first, depth) {
			for _, rest := range rows(n-first, depth) {
				list = append(list, append([]shape{s}, rest...))
			}
		}
	}
	return list
}

// bareShapes returns all shapes of n parts that are not deeper than depth, with classes and codes 0.
func bareShapes(n, depth int) []shape {
	if n == 1 {
		return []shape{leaf(0, 0)}
	}
	if depth == 0 {
		return nil
	}
	var list []shape
	for _, below := range rows(n-1, depth-1) {
		list = append(list, over(0, below...))
	}
	return list
}

// smallShapes returns all shapes of up to 4 parts, with leaves of all of n classes.
func smallShapes(n int) []shape {
	var list []shape
	code := 0
	for size := 1; size <= 4; size++ {
		for _, s := range bareShapes(size, impl.MaxDepth) {
			count := len(s.leaves())
			for _, classes := range listsOf(n, count) {
				if len(classes) != count {
					continue
				}
				at := 0
				s.dress(func() int { at++; return classes[at-1] }, func() int { code++; return code * 7 % 100 })
				list = append(list, s)
			}
		}
	}
	return list
}

// mixedShape returns a shape of n parts that is not deeper than depth, with n classes.
func mixedShape(m *mixer, n, depth, classes int) shape {
	if n == 1 {
		return leaf(m.below(classes), m.below(100))
	}
	s := over(m.below(100))
	for rest := n - 1; rest > 0; {
		size := 1
		if depth > 1 {
			size += m.below(rest)
		}
		s.below = append(s.below, mixedShape(m, size, depth-1, classes))
		rest -= size
	}
	return s
}

// nest returns a shape below depth groups of one.
func nest(depth int, s shape) shape {
	for i := range depth {
		s = over(90-i, s)
	}
	return s
}

// longShapes returns shapes of the greatest depth and of the most parts, with n classes.
func longShapes(n int) []shape {
	wide := over(99)
	for i := 1; i < impl.MaxParts; i++ {
		wide.below = append(wide.below, leaf(i*5%n, i))
	}
	deep := leaf(n-1, 5)
	for i := range impl.MaxDepth {
		deep = over(i, leaf(i%n, 50+i), deep, leaf(i*3%n, 60+i))
	}
	low := nest(impl.MaxDepth-1, over(7))
	inner := &low
	for len(inner.below) > 0 {
		inner = &inner.below[0]
	}
	for i := range impl.MaxParts - impl.MaxDepth {
		inner.below = append(inner.below, leaf(i*5%n, 98))
	}
	return []shape{
		wide, deep, low, nest(impl.MaxDepth, leaf(n-1, 0)), over(0, nest(4, leaf(0, 0)), nest(4, leaf(n-1, 99)), nest(4, leaf(n/2, 1))),
		over(3, over(3, leaf(0, 3), leaf(0, 3)), over(3, leaf(0, 3), leaf(0, 3)), leaf(0, 3)),
	}
}

// someShapes returns shapes with n classes: all small ones, all of 5 to 7 parts in one dress, mixed ones up to the most parts, and longShapes.
func someShapes(n int) []shape {
	m := mixer(3)
	list := smallShapes(n)
	for size := 5; size <= 7; size++ {
		for _, s := range bareShapes(size, impl.MaxDepth) {
			s.dress(func() int { return m.below(n) }, func() int { return m.below(100) })
			list = append(list, s)
		}
	}
	for i := range 200 {
		list = append(list, mixedShape(&m, 2+i%(impl.MaxParts-1), 1+i/16%impl.MaxDepth, n))
	}
	return append(list, longShapes(n)...)
}

// fewShapes returns some shapes with n classes.
func fewShapes(n int) []shape {
	m := mixer(4)
	list := []shape{leaf(0, 0), leaf(n-1, 99)}
	for i := range 40 {
		list = append(list, mixedShape(&m, 2+i%(impl.MaxParts-1), 1+i%impl.MaxDepth, n))
	}
	return append(list, longShapes(n)...)
}

// groupTrees returns trees whose classes are all, some, or none of them below each other.
func groupTrees() []impl.Tree {
	return append(treesOf(3), treeOf([]int{-1}), treeOf([]int{-1, 0, 0, 1, 1, 2, 2, 3}), treeOf([]int{-1, 0, 1, 2, 3, 4, 5, 6}), treeOf([]int{-1, 0, 0, 0, 0, 0, 0, 0}))
}

// sameGroups reports whether two lists of groups are the same.
func sameGroups(a, b [][]impl.Part) bool {
	return slices.EqualFunc(a, b, same[impl.Part])
}

// invalidGroups returns parts that are no group with classes of house, each for one reason alone, by that reason.
func invalidGroups() map[string][]impl.Part {
	deep := nest(impl.MaxDepth, over(1, leaf(1, 1)))
	wide := over(1)
	for range impl.MaxParts {
		wide.below = append(wide.below, leaf(1, 1))
	}
	out := map[string][]impl.Part{
		"nothing":                   nil,
		"too deep":                  deep.parts(),
		"too deep a leaf":           nest(impl.MaxDepth+1, leaf(1, 1)).parts(),
		"too many parts":            wide.parts(),
		"too many parts and depths": over(1, nest(4, leaf(1, 1)), nest(4, leaf(1, 1)), nest(4, leaf(1, 1)), leaf(1, 1)).parts(),
		"two leaves":                {{}, {}},
		"two groups":                append(over(1, leaf(1, 1)).parts(), over(1, leaf(1, 1)).parts()...),
		"a leaf behind a group":     append(over(1, leaf(1, 1)).parts(), impl.Part{Class: 1}),
		"below a leaf":              {{}, {Depth: 1}},
		"below a leaf in a group":   {{Group: true}, {Depth: 1}, {Depth: 2}},
		"two deeper":                {{Group: true}, {Depth: 2}},
		"two deeper in a group":     {{Group: true}, {Depth: 1, Group: true}, {Depth: 3}},
		"an empty group":            {{Group: true}},
		"an empty group last":       {{Group: true}, {Depth: 1}, {Depth: 1, Group: true}},
		"an empty group first":      {{Group: true}, {Depth: 1, Group: true}, {Depth: 1}},
		"an empty group at the end": {{Group: true}, {Depth: 1, Group: true}, {Depth: 2, Group: true}, {Depth: 1}},
		"a deepest group":           {{Group: true}, {Depth: 1, Group: true}, {Depth: 2, Group: true}, {Depth: 3, Group: true}, {Depth: 4, Group: true}, {Depth: 5, Group: true}},
	}
	s := over(1, leaf(1, 3), over(2, leaf(3, 4), leaf(2, 5)), over(3, leaf(4, 6)))
	for i, p := range s.parts() {
		changed := func(reason string, n int, change func(p *impl.Part)) {
			g := s.parts()
			change(&g[i])
			out[reason+" "+strconv.Itoa(n)+" of part "+strconv.Itoa(i)] = g
		}
		for _, n := range append([]int{-1, p.Depth + 2, 6, 7}, far...) {
			changed("depth", n, func(p *impl.Part) { p.Depth = n })
		}
		for _, n := range append([]int{-1, 100}, far...) {
			changed("code", n, func(p *impl.Part) { p.Code = n })
		}
		for _, n := range append([]int{-1, 6, 7, 8}, far...) {
			changed("class", n, func(p *impl.Part) { p.Class = n })
		}
		if p.Group {
			changed("class of a group", 5, func(p *impl.Part) { p.Class = 5 })
			changed("class of a group", 1, func(p *impl.Part) { p.Class = 1 })
		}
		changed("otherwise a group", 0, func(p *impl.Part) { p.Group, p.Class = !p.Group, 0 })
	}
	return out
}
