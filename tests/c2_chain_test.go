package tests

import (
	"slices"
	"strings"
	"testing"

	"loop.example/faultcleanup/impl"
)

func TestLimitsOfHeaps(t *testing.T) {
	if impl.MaxCode != 99 || impl.MaxFaults != 24 {
		t.Errorf("MaxCode, MaxFaults = %d, %d", impl.MaxCode, impl.MaxFaults)
	}
}

func TestValidHeap(t *testing.T) {
	x := mustParse(t, house)
	for _, h := range someHeaps() {
		if !impl.ValidHeap(x, h) {
			t.Errorf("ValidHeap(%v) is false", h)
		}
	}
	for class := range 6 {
		for _, code := range []int{0, 1, 98, 99} {
			if h := (impl.Heap{Faults: []impl.Fault{plain(class, code)}}); !impl.ValidHeap(x, h) {
				t.Errorf("ValidHeap(%v) is false", h)
			}
		}
	}
	for reason, h := range invalidHeaps() {
		if impl.ValidHeap(x, h) {
			t.Errorf("ValidHeap is true: %s", reason)
		}
	}
	root := impl.Tree{Classes: x.Classes[:1]}
	if !impl.ValidHeap(root, impl.Heap{}) || !impl.ValidHeap(root, impl.Heap{Faults: []impl.Fault{plain(0, 99)}}) || impl.ValidHeap(root, impl.Heap{Faults: []impl.Fault{plain(1, 99)}}) {
		t.Error("ValidHeap of a tree of one class")
	}
}

// checkNoHeap checks what each function returns for a tree and a heap of which one is not valid.
func checkNoHeap(t *testing.T, reason string, x impl.Tree, h impl.Heap) {
	t.Helper()
	if y, f, ok := impl.NewFault(x, h, 0, 0); ok || f != -1 || y.Faults != nil {
		t.Errorf("NewFault = %v, %d, %v: %s", y, f, ok, reason)
	}
	for _, q := range [][2]impl.Heap{{h, {}}, {{}, h}, {h, h}} {
		if y, ok := impl.JoinHeaps(x, q[0], q[1]); ok || y.Faults != nil {
			t.Errorf("JoinHeaps = %v, %v: %s", y, ok, reason)
		}
	}
	for f := range 3 {
		checkNoFault(t, reason, x, h, f)
	}
}

// checkNoFault checks what each function returns for a fault of a heap if one of them, or the tree, is not valid.
func checkNoFault(t *testing.T, reason string, x impl.Tree, h impl.Heap, f int) {
	t.Helper()
	for _, g := range []int{f, 0, 1} {
		for _, q := range [][2]int{{f, g}, {g, f}} {
			if y, ok := impl.RaiseWhile(x, h, q[0], q[1]); ok || y.Faults != nil {
				t.Errorf("RaiseWhile(%d, %d) = %v, %v: %s", q[0], q[1], y, ok, reason)
			}
		}
	}
	for _, c := range []int{-1, 0, 1} {
		if y, ok := impl.SetCause(x, h, f, c); ok || y.Faults != nil {
			t.Errorf("SetCause(%d, %d) = %v, %v: %s", f, c, y, ok, reason)
		}
	}
	for _, hide := range []bool{false, true} {
		if y, ok := impl.HideContext(x, h, f, hide); ok || y.Faults != nil {
			t.Errorf("HideContext(%d, %v) = %v, %v: %s", f, hide, y, ok, reason)
		}
	}
	if impl.ShownNext(x, h, f) != -2 || impl.ShownChain(x, h, f) != nil || impl.OldestShown(x, h, f) != -1 || impl.ChainText(x, h, f) != "" {
		t.Errorf("ShownNext, ShownChain, OldestShown or ChainText of %d has something: %s", f, reason)
	}
	if impl.ContextChain(x, h, f) != nil || impl.ReachOf(x, h, f) != nil {
		t.Errorf("ContextChain or ReachOf of %d has something: %s", f, reason)
	}
	if y, i := impl.IsolateFault(x, h, f); i != -1 || y.Faults != nil {
		t.Errorf("IsolateFault(%d) = %v, %d: %s", f, y, i, reason)
	}
}

// TestInvalidHeaps asks each function about heaps that are not valid.
func TestInvalidHeaps(t *testing.T) {
	x := mustParse(t, house)
	for reason, h := range invalidHeaps() {
		checkNoHeap(t, reason, x, h)
	}
}

// TestHeapsOfInvalidTrees asks each function about heaps of trees that are not valid.
func TestHeapsOfInvalidTrees(t *testing.T) {
	three := impl.Heap{Faults: []impl.Fault{plain(0, 1), plain(0, 2), plain(0, 3)}}
	for reason, x := range invalidTrees() {
		for _, h := range []impl.Heap{{}, three} {
			if impl.ValidHeap(x, h) {
				t.Errorf("ValidHeap is true: %s", reason)
			}
			checkNoHeap(t, reason, x, h)
		}
	}
}

// TestFaultsOutside asks each function about faults that a valid heap does not have.
func TestFaultsOutside(t *testing.T) {
	x := mustParse(t, house)
	for _, h := range []impl.Heap{{}, heapOf([]int{-1, 0, 1}, []int{2, -1, -1}), longHeaps()[5]} {
		n := len(h.Faults)
		for _, f := range append([]int{-1, n, n + 1}, far...) {
			checkNoFault(t, "no such fault", x, h, f)
		}
	}
}

func TestP14HeapsCanBeMadeOfNothing(t *testing.T) {
	x := mustParse(t, house)
	for _, want := range someHeaps() {
		var h impl.Heap
		for i, f := range want.Faults {
			var ok bool
			if h, _, ok = impl.NewFault(x, h, f.Class, f.Code); !ok {
				t.Fatalf("NewFault of fault %d of %v is false", i, want)
			}
		}
		for i, f := range want.Faults {
			if f.Context >= 0 {
				h, _ = impl.RaiseWhile(x, h, i, f.Context)
			}
			if f.Cause >= 0 {
				h, _ = impl.SetCause(x, h, i, f.Cause)
			}
			h, _ = impl.HideContext(x, h, i, f.Hide)
		}
		if !same(h.Faults, want.Faults) {
			t.Errorf("made of nothing: %v, but not %v", h, want)
		}
		for i := range want.Faults {
			list := impl.ContextChain(x, want, i)
			if len(list) == 0 || want.Faults[list[len(list)-1]].Context != -1 {
				t.Errorf("ContextChain(%v, %d) = %v", want, i, list)
			}
		}
	}
}

func TestP15NewFaultsAreAlone(t *testing.T) {
	x := mustParse(t, house)
	for at, h := range someHeaps() {
		n, class, code := len(h.Faults), at%6, at%100
		y, f, ok := impl.NewFault(x, h, class, code)
		if n == impl.MaxFaults {
			if ok || f != -1 || y.Faults != nil {
				t.Errorf("NewFault in a full heap = %v, %d, %v", y, f, ok)
			}
			continue
		}
		if !ok || f != n || !impl.ValidHeap(x, y) || !same(y.Faults, append(slices.Clone(h.Faults), plain(class, code))) {
			t.Fatalf("NewFault(%v, %d, %d) = %v, %d, %v", h, class, code, y, f, ok)
		}
		if !same(impl.ShownChain(x, y, f), []int{f}) || !same(impl.ReachOf(x, y, f), []int{f}) {
			t.Errorf("NewFault(%v) is not alone", h)
		}
		for i := range n {
			if impl.ChainText(x, y, i) != impl.ChainText(x, h, i) {
				t.Errorf("NewFault(%v) changes %d", h, i)
			}
		}
	}
}

func TestP15WhatIsNoNewFault(t *testing.T) {
	x := mustParse(t, house)
	for _, h := range []impl.Heap{{}, heapOf([]int{-1, 0}, []int{1, -1})} {
		for _, q := range [][2]int{{-1, 0}, {6, 0}, {7, 0}, {0, -1}, {0, 100}, {5, 100}, {6, 99}, {-1, -1}} {
			if y, f, ok := impl.NewFault(x, h, q[0], q[1]); ok || f != -1 || y.Faults != nil {
				t.Errorf("NewFault(%v) = %v, %d, %v", q, y, f, ok)
			}
		}
		for _, n := range far {
			if _, f, ok := impl.NewFault(x, h, n, 0); ok || f != -1 {
				t.Errorf("NewFault of the class %d = %d, %v", n, f, ok)
			}
			if _, f, ok := impl.NewFault(x, h, 0, n); ok || f != -1 {
				t.Errorf("NewFault of the code %d = %d, %v", n, f, ok)
			}
		}
		for _, q := range [][2]int{{5, 99}, {5, 0}, {0, 99}} {
			if _, f, ok := impl.NewFault(x, h, q[0], q[1]); !ok || f != len(h.Faults) {
				t.Errorf("NewFault(%v) = %d, %v", q, f, ok)
			}
		}
	}
}

// raised returns a heap in which the fault f is raised while g is handled.
func raised(h impl.Heap, f, g int) []impl.Fault {
	list := slices.Clone(h.Faults)
	if f == g {
		return list
	}
	for _, i := range contextsFrom(h, g) {
		if list[i].Context == f {
			list[i].Context = -1
		}
	}
	list[f].Context = g
	return list
}

func TestP16WhatIsHandledIsTheContext(t *testing.T) {
	x := mustParse(t, house)
	for _, h := range someHeaps() {
		for f := range h.Faults {
			for g := range h.Faults {
				y, ok := impl.RaiseWhile(x, h, f, g)
				if !ok || !impl.ValidHeap(x, y) || !same(y.Faults, raised(h, f, g)) || f != g && y.Faults[f].Context != g {
					t.Fatalf("RaiseWhile(%v, %d, %d) = %v, %v", h, f, g, y, ok)
				}
				if again, ok := impl.RaiseWhile(x, y, f, g); !ok || !same(again.Faults, y.Faults) {
					t.Errorf("RaiseWhile(%v, %d, %d) once more = %v, %v", h, f, g, again, ok)
				}
			}
		}
	}
}

// TestP16ContextsAreCut names what becomes of the contexts 3, 2, 1, 0 of one line.
func TestP16ContextsAreCut(t *testing.T) {
	x := mustParse(t, house)
	line := heapOf([]int{-1, 0, 1, 2}, []int{-1, -1, -1, -1})
	for _, q := range []struct {
		f, g int
		want []int
	}{
		{0, 3, []int{3, -1, 1, 2}},
		{0, 1, []int{1, -1, 1, 2}},
		{1, 2, []int{-1, 2, -1, 2}},
		{1, 3, []int{-1, 3, -1, 2}},
		{2, 3, []int{-1, 0, 3, -1}},
		{3, 0, []int{-1, 0, 1, 0}},
		{3, 2, []int{-1, 0, 1, 2}},
		{2, 2, []int{-1, 0, 1, 2}},
	} {
		y, ok := impl.RaiseWhile(x, line, q.f, q.g)
		if !ok || !same(y.Faults, heapOf(q.want, []int{-1, -1, -1, -1}).Faults) {
			t.Errorf("RaiseWhile(%d, %d) = %v, %v", q.f, q.g, y, ok)
		}
	}
	// Only the way from 1 to 0 is cut, not that from 2, and no Cause.
	fork := heapOf([]int{-1, 0, 0}, []int{1, 0, -1})
	if y, _ := impl.RaiseWhile(x, fork, 0, 1); !same(y.Faults, heapOf([]int{1, -1, 0}, []int{1, 0, -1}).Faults) {
		t.Errorf("RaiseWhile of a fork = %v", y)
	}
}

func TestP17ContextsArePutAhead(t *testing.T) {
	x := mustParse(t, house)
	for _, h := range someHeaps() {
		for f := range h.Faults {
			for g := range h.Faults {
				if f == g {
					continue
				}
				y, _ := impl.RaiseWhile(x, h, f, g)
				want := []int{f}
				for _, i := range impl.ContextChain(x, h, g) {
					if i == f {
						break
					}
					want = append(want, i)
				}
				if got := impl.ContextChain(x, y, f); !same(got, want) {
					t.Errorf("ContextChain(RaiseWhile(%v, %d, %d), %d) = %v", h, f, g, f, got)
				}
			}
		}
	}
}

func TestP18CausesAreShownFirst(t *testing.T) {
	x := mustParse(t, house)
	for _, h := range someHeaps() {
		n := len(h.Faults)
		for f := range n {
			for c := -1; c < n; c++ {
				y, ok := impl.SetCause(x, h, f, c)
				if c == f {
					if ok || y.Faults != nil {
						t.Errorf("SetCause(%v, %d, %d) = %v, %v", h, f, c, y, ok)
					}
					continue
				}
				want := slices.Clone(h.Faults)
				want[f].Cause, want[f].Hide = c, true
				if !ok || !same(y.Faults, want) || !impl.ValidHeap(x, y) || impl.ShownNext(x, y, f) != c {
					t.Errorf("SetCause(%v, %d, %d) = %v, %v", h, f, c, y, ok)
				}
			}
		}
		for _, c := range append([]int{n, n + 1}, far...) {
			for f := range n {
				if y, ok := impl.SetCause(x, h, f, c); ok || y.Faults != nil {
					t.Errorf("SetCause(%v, %d, %d) = %v, %v", h, f, c, y, ok)
				}
			}
		}
	}
}

func TestP19HiddenContextsAreNotShown(t *testing.T) {
	x := mustParse(t, house)
	for _, h := range someHeaps() {
		for f, old := range h.Faults {
			for _, hide := range []bool{true, false} {
				want := slices.Clone(h.Faults)
				want[f].Hide = hide
				y, ok := impl.HideContext(x, h, f, hide)
				if !ok || !same(y.Faults, want) || !impl.ValidHeap(x, y) {
					t.Errorf("HideContext(%v, %d, %v) = %v, %v", h, f, hide, y, ok)
				}
				next := old.Context
				if hide {
					next = -1
				}
				if old.Cause >= 0 {
					next = old.Cause
				}
				if got := impl.ShownNext(x, y, f); got != next {
					t.Errorf("ShownNext(%v, %d) = %d", y, f, got)
				}
			}
		}
	}
}

func TestP20WhatIsShownIsLinked(t *testing.T) {
	x := mustParse(t, house)
	for _, h := range someHeaps() {
		for f, fault := range h.Faults {
			got := impl.ShownNext(x, h, f)
			if got != nextShown(fault) || got != -1 && got != fault.Cause && got != fault.Context {
				t.Errorf("ShownNext(%v, %d) = %d", h, f, got)
			}
		}
	}
	for _, q := range []struct {
		cause, context int
		hide           bool
		want           int
	}{
		{-1, -1, false, -1}, {-1, -1, true, -1}, {-1, 2, false, 2}, {-1, 2, true, -1},
		{0, -1, false, 0}, {0, -1, true, 0}, {0, 2, false, 0}, {0, 2, true, 0}, {2, 2, false, 2}, {2, 2, true, 2},
	} {
		h := heapOf([]int{-1, q.context, -1}, []int{-1, q.cause, -1})
		h.Faults[1].Hide = q.hide
		if got := impl.ShownNext(x, h, 1); got != q.want {
			t.Errorf("ShownNext(%v, 1) = %d", h, got)
		}
	}
}

func TestP21ShownChainsGoFromOneToTheNextOne(t *testing.T) {
	x := mustParse(t, house)
	for _, h := range someHeaps() {
		for f := range h.Faults {
			got := impl.ShownChain(x, h, f)
			if len(got) == 0 || got[0] != f || !same(got, shownFrom(h, f)) {
				t.Fatalf("ShownChain(%v, %d) = %v", h, f, got)
			}
			for i, at := range got {
				next := impl.ShownNext(x, h, at)
				last := i == len(got)-1
				if slices.Contains(got[:i], at) || !last && next != got[i+1] || last && next != -1 && !slices.Contains(got, next) {
					t.Errorf("ShownChain(%v, %d) = %v", h, f, got)
				}
			}
		}
	}
}

// TestP21FaultsThatCauseEachOther names chains that come back to where they were.
func TestP21FaultsThatCauseEachOther(t *testing.T) {
	x := mustParse(t, house)
	both := heapOf([]int{-1, -1, -1}, []int{1, 0, 0})
	wayIn := heapOf([]int{-1, 0, 1, 2}, []int{2, -1, -1, -1})
	for _, q := range []struct {
		h    impl.Heap
		f    int
		want []int
	}{
		{both, 0, []int{0, 1}}, {both, 1, []int{1, 0}}, {both, 2, []int{2, 0, 1}},
		{wayIn, 3, []int{3, 2, 1, 0}}, {wayIn, 0, []int{0, 2, 1}}, {wayIn, 1, []int{1, 0, 2}},
	} {
		if got := impl.ShownChain(x, q.h, q.f); !same(got, q.want) {
			t.Errorf("ShownChain(%v, %d) = %v", q.h, q.f, got)
		}
	}
	ring := longHeaps()[4]
	if got := impl.ShownChain(x, ring, 7); len(got) != impl.MaxFaults || got[23] != 6 {
		t.Errorf("ShownChain of a ring = %v", got)
	}
}

func TestP22ContextsHaveAnEnd(t *testing.T) {
	x := mustParse(t, house)
	for _, h := range someHeaps() {
		for f := range h.Faults {
			got := impl.ContextChain(x, h, f)
			if len(got) == 0 || got[0] != f || !hasAll(impl.ReachOf(x, h, f), got) {
				t.Fatalf("ContextChain(%v, %d) = %v", h, f, got)
			}
			for i, at := range got {
				next := h.Faults[at].Context
				if slices.Contains(got[:i], at) || i < len(got)-1 && next != got[i+1] || i == len(got)-1 && next != -1 {
					t.Errorf("ContextChain(%v, %d) = %v", h, f, got)
				}
			}
		}
	}
	// Neither a Cause nor what is hidden ends the contexts.
	h := heapOf([]int{-1, 0, 1}, []int{2, 2, 0})
	h.Faults[1].Hide, h.Faults[2].Hide = true, true
	if got := impl.ContextChain(x, h, 2); !same(got, []int{2, 1, 0}) {
		t.Errorf("ContextChain(%v, 2) = %v", h, got)
	}
}

func TestP23LinksLeadOn(t *testing.T) {
	x := mustParse(t, house)
	for _, h := range someHeaps() {
		for f := range h.Faults {
			got := impl.ReachOf(x, h, f)
			if !ascends(got) || !slices.Contains(got, f) || !same(got, reachFrom(h, f)) {
				t.Fatalf("ReachOf(%v, %d) = %v", h, f, got)
			}
			for _, i := range got {
				for _, link := range []int{h.Faults[i].Cause, h.Faults[i].Context} {
					if link >= 0 && (!slices.Contains(got, link) || !hasAll(got, impl.ReachOf(x, h, link))) {
						t.Errorf("ReachOf(%v, %d) = %v has not all of %d", h, f, got, link)
					}
				}
			}
		}
	}
	// A context leads on, though a cause comes first, or it is hidden.
	h := heapOf([]int{-1, 0, 1, -1}, []int{-1, 3, -1, -1})
	h.Faults[2].Hide = true
	if got := impl.ReachOf(x, h, 2); !same(got, []int{0, 1, 2, 3}) {
		t.Errorf("ReachOf(%v, 2) = %v", h, got)
	}
}

// isolated returns the heap of what is reached from a fault.
func isolated(h impl.Heap, f int) []impl.Fault {
	list := reachFrom(h, f)
	place := map[int]int{-1: -1}
	for i, at := range list {
		place[at] = i
	}
	var out []impl.Fault
	for _, at := range list {
		x := h.Faults[at]
		x.Cause, x.Context = place[x.Cause], place[x.Context]
		out = append(out, x)
	}
	return out
}

func TestP24IsolatedFaultsAreShownAlike(t *testing.T) {
	x := mustParse(t, house)
	for _, h := range someHeaps() {
		for f := range h.Faults {
			y, i := impl.IsolateFault(x, h, f)
			if !impl.ValidHeap(x, y) || !same(y.Faults, isolated(h, f)) || i != slices.Index(reachFrom(h, f), f) {
				t.Fatalf("IsolateFault(%v, %d) = %v, %d", h, f, y, i)
			}
			if impl.ChainText(x, y, i) != impl.ChainText(x, h, f) || len(impl.ReachOf(x, y, i)) != len(y.Faults) {
				t.Errorf("IsolateFault(%v, %d) = %v is shown otherwise", h, f, y)
			}
			if again, j := impl.IsolateFault(x, y, i); j != i || !same(again.Faults, y.Faults) {
				t.Errorf("IsolateFault(%v, %d) once more = %v, %d", y, i, again, j)
			}
		}
	}
}

func TestP25TheOldestOneIsTheLast(t *testing.T) {
	x := mustParse(t, house)
	for _, h := range someHeaps() {
		for f := range h.Faults {
			list := impl.ShownChain(x, h, f)
			got := impl.OldestShown(x, h, f)
			if got != list[len(list)-1] || !strings.HasPrefix(impl.ChainText(x, h, f)+" ", aloneText(x, h.Faults[got])+" ") {
				t.Errorf("OldestShown(%v, %d) = %d", h, f, got)
			}
		}
	}
}

func TestP26TextsOfChainsHaveAllThatIsShown(t *testing.T) {
	x := mustParse(t, house)
	for _, h := range someHeaps() {
		for f, fault := range h.Faults {
			got := impl.ChainText(x, h, f)
			if got != textFrom(x, h, f) || strings.Count(got, ":") != len(impl.ShownChain(x, h, f)) || !strings.HasSuffix(" "+got, " "+aloneText(x, fault)) {
				t.Errorf("ChainText(%v, %d) = %q", h, f, got)
			}
		}
	}
}

func TestP26ChainTextsOfHouse(t *testing.T) {
	x := mustParse(t, house)
	faults := []impl.Fault{
		plain(0, 0),
		{Class: 5, Code: 99, Cause: -1, Context: 0},
		{Class: 3, Code: 10, Cause: 1, Context: -1, Hide: true},
		{Class: 4, Code: 7, Cause: -1, Context: 2},
		{Class: 2, Code: 5, Cause: 3, Context: 3},
		{Class: 1, Code: 6, Cause: -1, Context: 4, Hide: true},
	}
	for f, want := range []string{
		"any:0",
		"any:0 ~ wifi:99",
		"any:0 ~ wifi:99 > net:10",
		"any:0 ~ wifi:99 > net:10 ~ disk:7",
		"any:0 ~ wifi:99 > net:10 ~ disk:7 > key:5",
		"io:6",
	} {
		if got := impl.ChainText(x, impl.Heap{Faults: faults}, f); got != want {
			t.Errorf("ChainText(%d) = %q", f, got)
		}
	}
	// What the first one was caused by is there already, and so it is not shown once more.
	faults[0].Cause = 1
	for f, want := range []string{"wifi:99 > any:0", "any:0 ~ wifi:99", "any:0 ~ wifi:99 > net:10"} {
		if got := impl.ChainText(x, impl.Heap{Faults: faults}, f); got != want {
			t.Errorf("ChainText(%d) with a ring = %q", f, got)
		}
	}
}

// joined returns the faults of a heap, and those of another one behind them.
func joined(h, k impl.Heap) []impl.Fault {
	list := slices.Clone(h.Faults)
	for _, f := range k.Faults {
		if f.Cause != -1 {
			f.Cause += len(h.Faults)
		}
		if f.Context != -1 {
			f.Context += len(h.Faults)
		}
		list = append(list, f)
	}
	return list
}

func TestP27JoinedHeapsShowAlike(t *testing.T) {
	x := mustParse(t, house)
	for _, h := range fewHeaps() {
		for _, k := range fewHeaps() {
			n := len(h.Faults)
			y, ok := impl.JoinHeaps(x, h, k)
			if n+len(k.Faults) > impl.MaxFaults {
				if ok || y.Faults != nil {
					t.Errorf("JoinHeaps(%v, %v) = %v, %v", h, k, y, ok)
				}
				continue
			}
			if !ok || !impl.ValidHeap(x, y) || !same(y.Faults, joined(h, k)) {
				t.Fatalf("JoinHeaps(%v, %v) = %v, %v", h, k, y, ok)
			}
			for f := range y.Faults {
				want := ""
				if f < n {
					want = impl.ChainText(x, h, f)
				} else {
					want = impl.ChainText(x, k, f-n)
				}
				if got := impl.ChainText(x, y, f); got != want {
					t.Errorf("ChainText(JoinHeaps(%v, %v), %d) = %q", h, k, f, got)
				}
			}
		}
	}
}

func TestP103JoinedFaultsAreIsolatedAlike(t *testing.T) {
	x := mustParse(t, house)
	for _, h := range fewHeaps() {
		for _, k := range fewHeaps() {
			y, ok := impl.JoinHeaps(x, h, k)
			if !ok {
				continue
			}
			for f := range y.Faults {
				from, at := h, f
				if f >= len(h.Faults) {
					from, at = k, f-len(h.Faults)
				}
				want, i := impl.IsolateFault(x, from, at)
				if got, j := impl.IsolateFault(x, y, f); j != i || !same(got.Faults, want.Faults) {
					t.Errorf("IsolateFault(JoinHeaps(%v, %v), %d) = %v, %d", h, k, f, got, j)
				}
			}
		}
	}
}

func TestP104WhatIsHandledIsShownAhead(t *testing.T) {
	x := mustParse(t, house)
	told := 0
	for _, h := range someHeaps() {
		for f, fault := range h.Faults {
			for g := range h.Faults {
				if fault.Cause != -1 || fault.Hide || slices.Contains(impl.ShownChain(x, h, g), f) {
					continue
				}
				told++
				y, _ := impl.RaiseWhile(x, h, f, g)
				if got := impl.ChainText(x, y, f); got != impl.ChainText(x, h, g)+" ~ "+aloneText(x, fault) {
					t.Errorf("ChainText(RaiseWhile(%v, %d, %d), %d) = %q", h, f, g, f, got)
				}
			}
		}
	}
	if told < 1000 {
		t.Errorf("just %d faults were raised", told)
	}
}

// TestHeapsStay checks that no function of chains changes its arguments, or what is behind them in memory, or shares it.
func TestHeapsStay(t *testing.T) {
	x := mustParse(t, house)
	room := append(heapOf([]int{-1, 0, 1, -1}, []int{3, -1, 0, -1}).Faults, plain(1, 77), plain(2, 88))
	before := slices.Clone(room)
	h := impl.Heap{Faults: room[:4]}
	alone, _, _ := impl.NewFault(x, h, 1, 1)
	line, _ := impl.RaiseWhile(x, h, 0, 2)
	itself, _ := impl.RaiseWhile(x, h, 1, 1)
	cause, _ := impl.SetCause(x, h, 1, 3)
	hidden, _ := impl.HideContext(x, h, 1, true)
	all, _ := impl.IsolateFault(x, h, 2)
	twice, _ := impl.JoinHeaps(x, h, h)
	first, _ := impl.JoinHeaps(x, h, impl.Heap{})
	second, _ := impl.JoinHeaps(x, impl.Heap{}, h)
	impl.ShownChain(x, h, 2)
	impl.ContextChain(x, h, 2)
	impl.ReachOf(x, h, 2)
	impl.ChainText(x, h, 2)
	if !same(room, before) {
		t.Errorf("the faults are now %v", room)
	}
	for i, y := range []impl.Heap{alone, line, itself, cause, hidden, all, twice, first, second} {
		more := append(y.Faults, plain(5, 5))
		for j := range more {
			more[j] = plain(4, 44)
		}
		if !same(room, before) {
			t.Fatalf("result %d shares memory with its argument: %v", i, room)
		}
	}
}
