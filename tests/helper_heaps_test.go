package tests

import (
	"slices"
	"strconv"

	"loop.example/faultcleanup/impl"
)

// far are numbers of no fault of any heap, and of no class and no code.
var far = []int{-2, -3, -24, 100, 1 << 62, 1<<63 - 1, -1 << 63}

// plain returns a fault without links.
func plain(class, code int) impl.Fault {
	return impl.Fault{Class: class, Code: code, Cause: -1, Context: -1}
}

// heapOf returns a heap of faults of classes of house, with the Contexts and the Causes.
func heapOf(contexts, causes []int) impl.Heap {
	var h impl.Heap
	for i := range contexts {
		f := plain((5*i+2)%6, (i*i+7*i)%100)
		f.Context, f.Cause = contexts[i], causes[i]
		h.Faults = append(h.Faults, f)
	}
	return h
}

// linksOf returns all lists of links between n faults, none to itself.
func linksOf(n int) [][]int {
	list := [][]int{nil}
	for i := range n {
		var next [][]int
		for _, links := range list {
			for to := -1; to < n; to++ {
				if to != i {
					next = append(next, append(slices.Clone(links), to))
				}
			}
		}
		list = next
	}
	return list
}

// goRound reports whether links lead from a fault back to it.
func goRound(links []int) bool {
	for i := range links {
		to := links[i]
		for range links {
			if to == i {
				return true
			}
			if to >= 0 {
				to = links[to]
			}
		}
	}
	return false
}

// allHeaps returns all valid heaps of n faults, but with one Class and one Code for each.
func allHeaps(n int) []impl.Heap {
	var list []impl.Heap
	for _, contexts := range linksOf(n) {
		if goRound(contexts) {
			continue
		}
		for _, causes := range linksOf(n) {
			for hide := range 1 << n {
				h := heapOf(contexts, causes)
				for i := range n {
					h.Faults[i].Hide = hide>>i&1 == 1
				}
				list = append(list, h)
			}
		}
	}
	return list
}

// mixer tells numbers that follow no plain rule, but are always the same.
type mixer uint64

// below returns a number in 0..n-1.
func (m *mixer) below(n int) int {
	*m = *m*6364136223846793005 + 1442695040888963407
	return int(*m >> 33 % mixer(n))
}

// mixedHeap returns a valid heap of n faults, of which about one of few has no link.
func mixedHeap(m *mixer, n, few int) impl.Heap {
	order := make([]int, n)
	for i := range order {
		j := m.below(i + 1)
		order[i], order[j] = order[j], i
	}
	h := impl.Heap{Faults: make([]impl.Fault, n)}
	for at, i := range order {
		f := plain(m.below(6), m.below(100))
		// Contexts go back in the order, and so they do not go round.
		if at > 0 && m.below(few) > 0 {
			f.Context = order[m.below(at)]
		}
		if c := m.below(n); c != i && m.below(few) > 0 {
			f.Cause = c
		}
		f.Hide = m.below(4) == 0
		h.Faults[i] = f
	}
	return h
}

// longHeaps returns heaps of the most faults: lines of links both ways, a ring of Causes, all links to one, and pairs of links that lead to the same.
func longHeaps() []impl.Heap {
	n := impl.MaxFaults
	down, up, ring, star, none := make([]int, n), make([]int, n), make([]int, n), make([]int, n), make([]int, n)
	for i := range n {
		down[i], up[i], ring[i], star[i], none[i] = i-1, i+1, (i+1)%n, 0, -1
	}
	up[n-1], star[0] = -1, -1
	return []impl.Heap{
		heapOf(none, none), heapOf(down, none), heapOf(up, none), heapOf(none, down), heapOf(none, ring),
		heapOf(down, down), heapOf(up, up), heapOf(down, ring), heapOf(down, up), heapOf(star, none), heapOf(star, ring),
	}
}

// someHeaps returns all valid heaps of up to 3 faults, those of no Causes of 4, longHeaps, and mixed ones, with classes of house.
func someHeaps() []impl.Heap {
	var list []impl.Heap
	for n := range 4 {
		list = append(list, allHeaps(n)...)
	}
	for _, contexts := range linksOf(4) {
		if !goRound(contexts) {
			list = append(list, heapOf(contexts, []int{-1, -1, -1, -1}))
		}
	}
	m := mixer(1)
	for i := range 60 {
		list = append(list, mixedHeap(&m, 4+i%(impl.MaxFaults-3), 2+i%5))
	}
	return append(list, longHeaps()...)
}

// fewHeaps returns all valid heaps of up to 2 faults, and some larger ones.
func fewHeaps() []impl.Heap {
	var list []impl.Heap
	for n := range 3 {
		list = append(list, allHeaps(n)...)
	}
	m := mixer(2)
	for _, n := range []int{5, 9, 15, 19, 22, 23} {
		list = append(list, mixedHeap(&m, n, 4))
	}
	return append(list, longHeaps()[7])
}

// nextShown returns what is shown ahead of a fault; -1 if nothing is.
func nextShown(f impl.Fault) int {
	switch {
	case f.Cause != -1:
		return f.Cause
	case f.Hide:
		return -1
	}
	return f.Context
}

// shownFrom follows what is shown from a fault on.
func shownFrom(h impl.Heap, f int) []int {
	var list []int
	for f != -1 && !slices.Contains(list, f) {
		list = append(list, f)
		f = nextShown(h.Faults[f])
	}
	return list
}

// contextsFrom follows Contexts from a fault on.
func contextsFrom(h impl.Heap, f int) []int {
	var list []int
	for ; f != -1; f = h.Faults[f].Context {
		list = append(list, f)
	}
	return list
}

// reachFrom returns the faults to which links lead from a fault, ascending.
func reachFrom(h impl.Heap, f int) []int {
	has := map[int]bool{f: true}
	for range h.Faults {
		for i, x := range h.Faults {
			if has[i] {
				has[x.Cause], has[x.Context] = true, true
			}
		}
	}
	var list []int
	for i := range h.Faults {
		if has[i] {
			list = append(list, i)
		}
	}
	return list
}

// aloneText returns the text of a fault alone.
func aloneText(x impl.Tree, f impl.Fault) string {
	return x.Classes[f.Class].Name + ":" + strconv.Itoa(f.Code)
}

// textFrom returns the text of a fault and of what is shown ahead of it.
func textFrom(x impl.Tree, h impl.Heap, f int) string {
	list := shownFrom(h, f)
	s := aloneText(x, h.Faults[f])
	for i := 1; i < len(list); i++ {
		arrow := " ~ "
		if h.Faults[list[i-1]].Cause == list[i] {
			arrow = " > "
		}
		s = aloneText(x, h.Faults[list[i]]) + arrow + s
	}
	return s
}

// invalidHeaps returns heaps that are not valid with classes of house, each for one reason alone, by that reason.
func invalidHeaps() map[string]impl.Heap {
	three := func(change func(f []impl.Fault)) impl.Heap {
		h := heapOf([]int{-1, 0, 1}, []int{-1, -1, -1})
		change(h.Faults)
		return h
	}
	tooMany := impl.Heap{Faults: slices.Repeat([]impl.Fault{plain(0, 0)}, impl.MaxFaults+1)}
	out := map[string]impl.Heap{
		"too many faults":         tooMany,
		"contexts of two":         heapOf([]int{1, 0}, []int{-1, -1}),
		"contexts of three":       heapOf([]int{1, 2, 0}, []int{-1, -1, -1}),
		"contexts of the last":    heapOf([]int{-1, 2, 1}, []int{-1, -1, -1}),
		"contexts with a way in":  heapOf([]int{1, 0, 1}, []int{-1, -1, -1}),
		"context itself alone":    {Faults: []impl.Fault{{Cause: -1}}},
		"cause itself alone":      {Faults: []impl.Fault{{Context: -1}}},
		"contexts behind a cause": heapOf([]int{-1, 2, 3, 1}, []int{1, -1, -1, -1}),
	}
	for i := range 3 {
		at := " of fault " + strconv.Itoa(i)
		for _, n := range append([]int{-2, 3, 4, i}, far...) {
			out["cause "+strconv.Itoa(n)+at] = three(func(f []impl.Fault) { f[i].Cause = n })
			out["context "+strconv.Itoa(n)+at] = three(func(f []impl.Fault) { f[i].Context = n })
		}
		for _, n := range append([]int{-1, 6, 7, 8}, far...) {
			out["class "+strconv.Itoa(n)+at] = three(func(f []impl.Fault) { f[i].Class = n })
		}
		for _, n := range append([]int{-1, 100}, far...) {
			out["code "+strconv.Itoa(n)+at] = three(func(f []impl.Fault) { f[i].Code = n })
		}
	}
	return out
}
