package tests

import (
	"fmt"
	"math"
	"slices"
	"testing"

	"loop.example/setparts/impl"
)

// The greatest numbers of things that ArcPlain and ArcCount allow, written out as in most.
const (
	mostPlain  = 7
	mostCounts = 6
)

// arcsFrom returns all arcs of a partition, made from their definition: from
// each thing to the next greater one of its block.
func arcsFrom(a []int) [][]int {
	var out [][]int
	for i := range a {
		for k := i + 1; k < len(a); k++ {
			if a[i] == a[k] {
				out = append(out, []int{i, k})
				break
			}
		}
	}
	return out
}

// hasArc reports whether an arc stands in a list of arcs.
func hasArc(arcs [][]int, from int, to int) bool {
	return slices.ContainsFunc(arcs, func(arc []int) bool { return slices.Equal(arc, []int{from, to}) })
}

// crossAndNest counts, over all four things, the pairs of arcs that cross and
// those that nest.
func crossAndNest(a []int) (int, int) {
	arcs := arcsFrom(a)
	cross, nest := 0, 0
	for i := range a {
		for j := i + 1; j < len(a); j++ {
			for k := j + 1; k < len(a); k++ {
				for l := k + 1; l < len(a); l++ {
					if hasArc(arcs, i, k) && hasArc(arcs, j, l) {
						cross++
					}
					if hasArc(arcs, i, l) && hasArc(arcs, j, k) {
						nest++
					}
				}
			}
		}
	}
	return cross, nest
}

// connected returns the partition of n things that arcs connect.
func connected(n int, arcs [][]int) []int {
	in := inOrder(n)
	for _, arc := range arcs {
		was, is := in[arc[1]], in[arc[0]]
		for thing := range in {
			if in[thing] == was {
				in[thing] = is
			}
		}
	}
	return fromTogether(n, func(i int, k int) bool { return in[i] == in[k] })
}

// twoThings returns all two of n things, the lesser one first.
func twoThings(n int) [][]int {
	var out [][]int
	for i := range n {
		for k := i + 1; k < n; k++ {
			out = append(out, []int{i, k})
		}
	}
	return out
}

// chosenOf returns those of some lists whose bits a set has, in their order.
func chosenOf(all [][]int, set int) [][]int {
	var out [][]int
	for i, list := range all {
		if set>>i&1 == 1 {
			out = append(out, list)
		}
	}
	return out
}

// areArcs reports whether no two of some lists of two things begin alike or end alike.
func areArcs(told [][]int) bool {
	for i, x := range told {
		for _, y := range told[:i] {
			if x[0] == y[0] || x[1] == y[1] {
				return false
			}
		}
	}
	return true
}

// inOrders returns some lists in several orders, all orders of four at most.
func inOrders(told [][]int) [][][]int {
	var orders [][]int
	if len(told) <= 4 {
		orders = namings(len(told))
	} else {
		back := inOrder(len(told))
		slices.Reverse(back)
		around := inOrder(len(told))
		rotate(around, 2)
		orders = [][]int{inOrder(len(told)), back, around}
	}
	var out [][][]int
	for _, order := range orders {
		turned := make([][]int, len(told))
		for i, place := range order {
			turned[i] = told[place]
		}
		out = append(out, turned)
	}
	return out
}

// mustLead fails the test unless ArcPart of some arcs is a partition, and
// ArcList of it has these arcs just.
func mustLead(t *testing.T, want []int, arcs [][]int) {
	t.Helper()
	got, ok := impl.ArcPart(len(want), arcs)
	mustBe(t, want, got, ok, "ArcPart", len(want), arcs)
	list, ok := impl.ArcList(got)
	if !ok || len(list) != len(arcs) {
		t.Fatalf("ArcList of %v returned %v, %v: the arcs %v were told", got, list, ok, arcs)
	}
	for _, arc := range arcs {
		if !hasArc(list, arc[0], arc[1]) {
			t.Fatalf("ArcList of %v returned %v: the arcs %v were told", got, list, arcs)
		}
	}
}

// Promise 38.
func TestArcList(t *testing.T) {
	for _, a := range partitionsTo(most) {
		arcs, ok := impl.ArcList(a)
		mustLists(t, arcsFrom(a), arcs, ok, "ArcList", a)
		back, ok := impl.ArcPart(len(a), arcs)
		mustBe(t, a, back, ok, "ArcPart", len(a), arcs)
		rank, ok := impl.FinerRank(a)
		mustCount(t, len(arcs), rank, ok, "FinerRank", a)
	}
	for _, a := range append(wrongPartitions(), partitions(most+1)...) {
		got, ok := impl.ArcList(a)
		mustFailLists(t, got, ok, "ArcList", a)
	}
}

// Promises 39 and 40: the numbers are as counted over all four things, the same
// for the partition turned, and no more than pairs of arcs.
func TestArcCrossAndNest(t *testing.T) {
	for _, a := range partitionsTo(most) {
		cross, nest := crossAndNest(a)
		got, ok := impl.ArcCross(a)
		mustCount(t, cross, got, ok, "ArcCross", a)
		got, ok = impl.ArcNest(a)
		mustCount(t, nest, got, ok, "ArcNest", a)
		turned, _ := impl.PartTurned(a)
		got, ok = impl.ArcCross(turned)
		mustCount(t, cross, got, ok, "ArcCross", turned)
		got, ok = impl.ArcNest(turned)
		mustCount(t, nest, got, ok, "ArcNest", turned)
		if arcs, _ := impl.ArcList(a); cross+nest > choices(len(arcs), 2) {
			t.Fatalf("%v has %d arcs, but %d pairs of them cross and %d nest", a, len(arcs), cross, nest)
		}
	}
	for _, a := range append(wrongPartitions(), partitions(most+1)...) {
		got, ok := impl.ArcCross(a)
		mustFailCount(t, got, ok, "ArcCross", a)
		got, ok = impl.ArcNest(a)
		mustFailCount(t, got, ok, "ArcNest", a)
	}
}

// Promise 41.
func TestArcOpeners(t *testing.T) {
	for _, a := range partitionsTo(most) {
		var first, last []int
		for thing := range a {
			ahead := slices.Contains(a[:thing], a[thing])
			behind := slices.Contains(a[thing+1:], a[thing])
			if !ahead && behind {
				first = append(first, thing)
			}
			if ahead && !behind {
				last = append(last, thing)
			}
		}
		openers, closers, ok := impl.ArcOpeners(a)
		mustBe(t, first, openers, ok, "ArcOpeners, the first list,", a)
		mustBe(t, last, closers, ok, "ArcOpeners, the second list,", a)
		if len(openers) != len(closers) {
			t.Fatalf("ArcOpeners of %v returned %v and %v: not as many", a, openers, closers)
		}
		turned, _ := impl.PartTurned(a)
		other, another, ok := impl.ArcOpeners(turned)
		mustBe(t, turnedThings(len(a), closers), other, ok, "ArcOpeners, the first list,", turned)
		mustBe(t, turnedThings(len(a), openers), another, ok, "ArcOpeners, the second list,", turned)
	}
	for _, a := range append(wrongPartitions(), partitions(most+1)...) {
		openers, closers, ok := impl.ArcOpeners(a)
		mustFail(t, openers, ok, "ArcOpeners, the first list,", a)
		mustFail(t, closers, ok, "ArcOpeners, the second list,", a)
	}
}

// turnedThings returns some of n things, in ascending order, as they are called
// and stand if all things are turned.
func turnedThings(n int, things []int) []int {
	var out []int
	for _, thing := range things {
		out = append(out, n-1-thing)
	}
	slices.Reverse(out)
	return out
}

// Promise 42: all sets of two things of which no two begin or end alike are the
// arcs of one partition each, and no other set is.
func TestArcPart(t *testing.T) {
	for n := 1; n <= 6; n++ {
		two := twoThings(n)
		succeeded := 0
		for set := range 1 << len(two) {
			told := chosenOf(two, set)
			if !areArcs(told) {
				got, ok := impl.ArcPart(n, told)
				mustFail(t, got, ok, "ArcPart", n, told)
				continue
			}
			succeeded++
			want := connected(n, told)
			for _, turned := range inOrders(told) {
				mustLead(t, want, turned)
			}
		}
		if succeeded != bell[n] {
			t.Fatalf("%d sets of arcs of %d things: want %d", succeeded, n, bell[n])
		}
	}
}

// Rule of the document: arcs are told in any order.
func TestArcPartOrders(t *testing.T) {
	for _, n := range []int{7, most} {
		for _, a := range partitions(n) {
			for _, turned := range inOrders(arcsFrom(a)) {
				mustLead(t, a, turned)
			}
		}
	}
	for _, order := range namings(most - 1) {
		turned := make([][]int, len(order))
		for i, from := range order {
			turned[i] = []int{from, from + 1}
		}
		mustLead(t, oneBlock(most), turned)
	}
}

// Rule of the document: without arcs each thing is alone.
func TestArcPartNone(t *testing.T) {
	for n := 1; n <= most; n++ {
		for _, arcs := range [][][]int{nil, {}} {
			got, ok := impl.ArcPart(n, arcs)
			mustBe(t, inOrder(n), got, ok, "ArcPart", n, arcs)
		}
	}
	for _, n := range wrongThings(most) {
		for _, arcs := range [][][]int{nil, {}, {{}}, {{0, 1}}, {{0, 1}, {1, 2}}, {{7, 8}}, {{1, 0}}} {
			got, ok := impl.ArcPart(n, arcs)
			mustFail(t, got, ok, "ArcPart", n, arcs)
		}
	}
}

// wrongArcs returns lists that tell no arc between two of n things.
func wrongArcs(n int) [][]int {
	wrong := [][]int{
		nil, {}, {0}, {n - 1}, {0, 1, 2}, {0, 1, 1}, {0, 1, 0}, {0, 0, 1}, {0, 1, -1}, {0, 1, 2, 3}, inOrder(n + 2),
		{0, 0}, {n - 1, n - 1}, {1, 0}, {n - 1, 0}, {n - 1, n - 2},
		{0, n}, {n - 1, n}, {n, n}, {n, n + 1}, {n, 0}, {-1, 0}, {-1, n - 1}, {-2, -1}, {0, -1}, {-1, n},
	}
	for _, far := range farNumbers {
		wrong = append(wrong, []int{far}, []int{0, far}, []int{far, n - 1}, []int{far, far})
	}
	return append(wrong, []int{math.MinInt, math.MaxInt}, []int{math.MinInt, 0}, []int{0, math.MaxInt}, []int{0, 1, math.MaxInt})
}

// Rule of the document: each arc is two of the n things, the lesser one first,
// wherever it stands among the others.
func TestArcPartWrongArcs(t *testing.T) {
	for n := 1; n <= most; n++ {
		for _, wrong := range wrongArcs(n) {
			for _, a := range [][]int{inOrder(n), oneBlock(n), connected(n, [][]int{{0, n - 1}}), connected(n, [][]int{{n / 2, n - 1}})} {
				arcs := arcsFrom(a)
				for place := range len(arcs) + 1 {
					told := slices.Insert(slices.Clone(arcs), place, wrong)
					got, ok := impl.ArcPart(n, told)
					mustFail(t, got, ok, "ArcPart", n, told)
				}
			}
		}
	}
}

// Rule of the document: no two arcs lead from one thing or to one, nor is one
// told twice, wherever both stand.
func TestArcPartTwoAlike(t *testing.T) {
	for n := 2; n <= most; n++ {
		for _, a := range [][]int{oneBlock(n), connected(n, [][]int{{0, n - 1}}), connected(n, [][]int{{n / 2, n - 1}}), connected(n, [][]int{{0, n / 2}})} {
			arcs := arcsFrom(a)
			for _, more := range twoThings(n) {
				if areArcs(append(slices.Clone(arcs), more)) {
					continue
				}
				for place := range len(arcs) + 1 {
					told := slices.Insert(slices.Clone(arcs), place, more)
					got, ok := impl.ArcPart(n, told)
					mustFail(t, got, ok, "ArcPart", n, told)
				}
			}
		}
	}
	cases := [][][]int{
		{{0, 1}, {0, 1}}, {{0, 1}, {0, 2}}, {{0, 2}, {1, 2}}, {{0, 2}, {0, 1}}, {{1, 2}, {0, 2}},
		{{6, 7}, {6, 7}}, {{5, 7}, {6, 7}}, {{5, 6}, {5, 7}}, {{0, 7}, {1, 2}, {3, 7}}, {{0, 7}, {1, 2}, {0, 3}},
		{{0, 1}, {1, 2}, {0, 2}}, {{0, 1}, {1, 2}, {2, 3}, {3, 4}, {4, 5}, {5, 6}, {6, 7}, {0, 7}},
	}
	for _, told := range cases {
		got, ok := impl.ArcPart(most, told)
		mustFail(t, got, ok, "ArcPart", most, told)
	}
	got, ok := impl.ArcPart(most, slices.Repeat([][]int{{2, 5}}, 1000))
	mustFail(t, got, ok, "ArcPart", most, "one arc a thousand times")
}

// Promise 43.
func TestArcPlain(t *testing.T) {
	written := []int{1: 1, 2: 2, 3: 5, 4: 14, 5: 42, 6: 132, 7: 429}
	for n := 1; n <= mostPlain; n++ {
		plain, free := 0, 0
		for _, a := range partitions(n) {
			cross, nest := crossAndNest(a)
			if cross == 0 {
				plain++
			}
			if nest == 0 {
				free++
			}
		}
		got, ok := impl.ArcPlain(n)
		mustCount(t, plain, got, ok, "ArcPlain", n)
		mustCount(t, free, got, ok, "ArcPlain", n)
		mustCount(t, written[n], got, ok, "ArcPlain", n)
		if (n+1)*got != choices(2*n, n) {
			t.Fatalf("ArcPlain of %d returned %d: %d times it is not %d", n, got, n+1, choices(2*n, n))
		}
	}
	for _, n := range wrongThings(mostPlain) {
		got, ok := impl.ArcPlain(n)
		mustFailCount(t, got, ok, "ArcPlain", n)
	}
}

// Promise 44.
func TestArcCount(t *testing.T) {
	for n := 1; n <= mostCounts; n++ {
		counts := map[[2]int]int{}
		for _, a := range partitions(n) {
			cross, nest := crossAndNest(a)
			counts[[2]int{cross, nest}]++
		}
		sum := 0
		pairs := choices(n-1, 2)
		for c := 0; c <= pairs+2; c++ {
			for m := 0; m <= pairs+2; m++ {
				got, ok := impl.ArcCount(n, c, m)
				mustCount(t, counts[[2]int{c, m}], got, ok, "ArcCount", n, c, m)
				other, ok := impl.ArcCount(n, m, c)
				mustCount(t, got, other, ok, "ArcCount", n, m, c)
				sum += got
			}
		}
		if sum != bell[n] {
			t.Fatalf("all ArcCount of %d add up to %d: want %d", n, sum, bell[n])
		}
	}
}

// Rule of the document: it fails for other n and for negative numbers, but not
// for more pairs than there are, which no partition has.
func TestArcCountFails(t *testing.T) {
	for _, n := range wrongThings(mostCounts) {
		for _, pair := range [][2]int{{0, 0}, {0, 1}, {1, 0}, {3, 3}, {-1, 0}, {0, -1}, {-1, -1}, {math.MaxInt, 0}} {
			got, ok := impl.ArcCount(n, pair[0], pair[1])
			mustFailCount(t, got, ok, "ArcCount", n, pair)
		}
	}
	for n := 1; n <= mostCounts; n++ {
		for _, far := range farNumbers {
			for _, near := range []int{0, 1, 2, far} {
				for _, pair := range [][2]int{{far, near}, {near, far}} {
					got, ok := impl.ArcCount(n, pair[0], pair[1])
					if far < 0 {
						mustFailCount(t, got, ok, "ArcCount", n, pair)
					} else {
						mustCount(t, 0, got, ok, "ArcCount", n, pair)
					}
				}
			}
		}
	}
}

// Rule of the document: written out, how many partitions have which pairs.
func TestArcCountWritten(t *testing.T) {
	cases := []struct{ n, c, m, want int }{
		{1, 0, 0, 1}, {1, 1, 0, 0}, {1, 0, 1, 0}, {2, 0, 0, 2}, {3, 0, 0, 5}, {3, 1, 0, 0},
		{4, 0, 0, 13}, {4, 1, 0, 1}, {4, 0, 1, 1}, {4, 1, 1, 0}, {6, 3, 0, 2}, {6, 0, 3, 2}, {6, 10, 0, 0},
	}
	for _, c := range cases {
		got, ok := impl.ArcCount(c.n, c.c, c.m)
		mustCount(t, c.want, got, ok, "ArcCount", c.n, c.c, c.m)
	}
}

// Promise 45.
func TestArcLong(t *testing.T) {
	for _, a := range partitionsTo(most) {
		blocks := 0
		for _, b := range blocksFrom(a) {
			blocks += b[len(b)-1] - b[0]
		}
		got, ok := impl.ArcLong(a)
		mustCount(t, blocks, got, ok, "ArcLong", a)
		sum := 0
		for _, arc := range arcsFrom(a) {
			sum += arc[1] - arc[0]
		}
		mustCount(t, sum, got, ok, "ArcLong", a)
	}
	for _, a := range append(wrongPartitions(), partitions(most+1)...) {
		got, ok := impl.ArcLong(a)
		mustFailCount(t, got, ok, "ArcLong", a)
	}
}

// arcCase is a partition with all that this chapter makes of it.
type arcCase struct {
	a, openers, closers []int
	arcs                [][]int
	cross, nest, long   int
}

// checkArcs asks all functions of one partition.
func checkArcs(t *testing.T, c arcCase) {
	t.Helper()
	arcs, ok := impl.ArcList(c.a)
	mustLists(t, c.arcs, arcs, ok, "ArcList", c.a)
	cross, ok := impl.ArcCross(c.a)
	mustCount(t, c.cross, cross, ok, "ArcCross", c.a)
	nest, ok := impl.ArcNest(c.a)
	mustCount(t, c.nest, nest, ok, "ArcNest", c.a)
	openers, closers, ok := impl.ArcOpeners(c.a)
	mustBe(t, c.openers, openers, ok, "ArcOpeners, the first list,", c.a)
	mustBe(t, c.closers, closers, ok, "ArcOpeners, the second list,", c.a)
	long, ok := impl.ArcLong(c.a)
	mustCount(t, c.long, long, ok, "ArcLong", c.a)
	part, ok := impl.ArcPart(len(c.a), c.arcs)
	mustBe(t, c.a, part, ok, "ArcPart", len(c.a), c.arcs)
}

// Rule of the document: written out, what crosses, what nests and what does
// neither, as two arcs of one block that meet in a thing.
func TestArcsWritten(t *testing.T) {
	cases := []arcCase{
		{a: []int{0, 0}, arcs: [][]int{{0, 1}}, openers: []int{0}, closers: []int{1}, long: 1},
		{a: []int{0, 0, 0}, arcs: [][]int{{0, 1}, {1, 2}}, openers: []int{0}, closers: []int{2}, long: 2},
		{a: []int{0, 0, 1, 1}, arcs: [][]int{{0, 1}, {2, 3}}, openers: []int{0, 2}, closers: []int{1, 3}, long: 2},
		{a: []int{0, 1, 0, 1}, arcs: [][]int{{0, 2}, {1, 3}}, openers: []int{0, 1}, closers: []int{2, 3}, cross: 1, long: 4},
		{a: []int{0, 1, 1, 0}, arcs: [][]int{{0, 3}, {1, 2}}, openers: []int{0, 1}, closers: []int{2, 3}, nest: 1, long: 4},
		{a: []int{0, 1, 0, 1, 0}, arcs: [][]int{{0, 2}, {1, 3}, {2, 4}}, openers: []int{0, 1}, closers: []int{3, 4}, cross: 2, long: 6},
		{a: []int{0, 1, 1, 1, 0}, arcs: [][]int{{0, 4}, {1, 2}, {2, 3}}, openers: []int{0, 1}, closers: []int{3, 4}, nest: 2, long: 6},
		{a: []int{0, 1, 2, 0, 2, 1}, arcs: [][]int{{0, 3}, {1, 5}, {2, 4}}, openers: []int{0, 1, 2}, closers: []int{3, 4, 5}, cross: 2, nest: 1, long: 9},
		{a: []int{0, 1, 0, 2, 1, 3, 0, 2}, arcs: [][]int{{0, 2}, {1, 4}, {2, 6}, {3, 7}}, openers: []int{0, 1, 3}, closers: []int{4, 6, 7}, cross: 4, long: 13},
		{a: []int{0, 1, 2, 3, 3, 2, 1, 0}, arcs: [][]int{{0, 7}, {1, 6}, {2, 5}, {3, 4}}, openers: []int{0, 1, 2, 3}, closers: []int{4, 5, 6, 7}, nest: 6, long: 16},
		{a: []int{0, 1, 2, 3, 0, 1, 2, 3}, arcs: [][]int{{0, 4}, {1, 5}, {2, 6}, {3, 7}}, openers: []int{0, 1, 2, 3}, closers: []int{4, 5, 6, 7}, cross: 6, long: 16},
		{a: []int{0, 1, 2, 3, 4, 5, 6, 0}, arcs: [][]int{{0, 7}}, openers: []int{0}, closers: []int{7}, long: 7},
	}
	for _, c := range cases {
		checkArcs(t, c)
	}
}

// Rule of the document: a thing alone has no arc, and opens and closes nothing.
func TestArcsOfThingsAlone(t *testing.T) {
	for n := 1; n <= most; n++ {
		checkArcs(t, arcCase{a: inOrder(n)})
	}
}

// Rule of the document: one block is opened and closed once, and its arcs
// neither cross nor nest.
func TestArcsOfOneBlock(t *testing.T) {
	for n := 2; n <= most; n++ {
		var arcs [][]int
		for thing := range n - 1 {
			arcs = append(arcs, []int{thing, thing + 1})
		}
		checkArcs(t, arcCase{a: oneBlock(n), arcs: arcs, openers: []int{0}, closers: []int{n - 1}, long: n - 1})
	}
}

// arcQuestions returns calls of all functions of this chapter, wrong ones among them.
func arcQuestions() []question {
	var out []question
	put := func(name string, ask func() string) {
		out = append(out, question{name, ask})
	}
	for n := -1; n <= most+1; n++ {
		put("ArcPlain", func() string { return fmt.Sprint(impl.ArcPlain(n)) })
		for c := -1; c <= 4; c++ {
			for m := -1; m <= 4; m++ {
				put("ArcCount", func() string { return fmt.Sprint(impl.ArcCount(n, c, m)) })
			}
		}
	}
	given := slices.Concat(partitionsTo(5), wrongPartitions(), [][]int{{0, 1, 0, 2, 1, 3, 0, 2}, inOrder(most), oneBlock(most)})
	for _, a := range given {
		put("ArcList", func() string { return fmt.Sprint(impl.ArcList(a)) })
		put("ArcCross", func() string { return fmt.Sprint(impl.ArcCross(a)) })
		put("ArcNest", func() string { return fmt.Sprint(impl.ArcNest(a)) })
		put("ArcOpeners", func() string { return fmt.Sprint(impl.ArcOpeners(a)) })
		put("ArcLong", func() string { return fmt.Sprint(impl.ArcLong(a)) })
		arcs := arcsFrom(a)
		for _, n := range []int{len(a), most} {
			put("ArcPart", func() string { return fmt.Sprint(impl.ArcPart(n, arcs)) })
		}
	}
	for _, wrong := range wrongArcs(4) {
		put("ArcPart", func() string { return fmt.Sprint(impl.ArcPart(4, [][]int{{0, 1}, wrong, {2, 3}})) })
	}
	return out
}

// Rule of the document: functions keep no state between calls, so that the same question has the same answer.
func TestArcsAgain(t *testing.T) {
	checkAgain(t, arcQuestions())
}

// Rule of the document: arguments stay as they were, and results share no memory.
func TestArcsMemory(t *testing.T) {
	for _, a := range append(partitionsTo(most), wrongPartitions()...) {
		alone := [][]int{a}
		checkApart(t, "ArcList", alone, func(g [][]int) [][]int {
			arcs, _ := impl.ArcList(g[0])
			return arcs
		})
		checkApart(t, "ArcOpeners", alone, func(g [][]int) [][]int {
			openers, closers, _ := impl.ArcOpeners(g[0])
			return [][]int{openers, closers}
		})
		checkApart(t, "ArcCross", alone, func(g [][]int) [][]int { return none(impl.ArcCross(g[0])) })
		checkApart(t, "ArcNest", alone, func(g [][]int) [][]int { return none(impl.ArcNest(g[0])) })
		checkApart(t, "ArcLong", alone, func(g [][]int) [][]int { return none(impl.ArcLong(g[0])) })
	}
}

// Rule of the document: the arcs told stay as they were and where they were,
// and the partition shares no memory with them.
func TestArcPartMemory(t *testing.T) {
	for _, a := range partitionsTo(most) {
		arcs := arcsFrom(a)
		slices.Reverse(arcs)
		checkApart(t, "ArcPart", arcs, func(g [][]int) [][]int { return one(impl.ArcPart(len(a), g)) })
	}
	for n := 0; n <= most+1; n++ {
		for _, wrong := range wrongArcs(max(n, 1)) {
			told := [][]int{{1, 2}, {0, 1}, wrong, {2, 3}}
			checkApart(t, "ArcPart", told, func(g [][]int) [][]int { return one(impl.ArcPart(n, g)) })
		}
		checkApart(t, "ArcPart", [][]int{{0, 2}, {1, 2}}, func(g [][]int) [][]int { return one(impl.ArcPart(n, g)) })
	}
}

// Rule of the document: results share no memory with those of other functions either.
func TestArcsApart(t *testing.T) {
	checkApart(t, "all functions of arcs", [][]int{{0, 1, 0, 1, 2, 0}, {3, 5}, {0, 2}}, func(g [][]int) [][]int {
		arcs, _ := impl.ArcList(g[0])
		openers, closers, _ := impl.ArcOpeners(g[0])
		part, _ := impl.ArcPart(6, g[1:])
		return slices.Concat(arcs, [][]int{openers, closers, part})
	})
}
