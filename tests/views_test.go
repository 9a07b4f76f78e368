package tests

import (
	"fmt"
	"runtime"
	"slices"
	"sync"
	"testing"

	"loop.example/setparts/impl"
)

// The greatest number of views, and of their things, written out as in most.
const (
	mostViews = 6
	mostSeen  = 5
)

// together reports whether a partition has two things together.
func together(a []int, pair []int) bool {
	return a[pair[0]] == a[pair[1]]
}

// quarrelOf counts the pairs on which two partitions don't agree.
func quarrelOf(a []int, b []int) int {
	count := 0
	for _, pair := range twoThings(len(a)) {
		if together(a, pair) != together(b, pair) {
			count++
		}
	}
	return count
}

// costOf adds the quarrels of a partition with some views.
func costOf(a []int, views [][]int) int {
	sum := 0
	for _, view := range views {
		sum += quarrelOf(a, view)
	}
	return sum
}

// commonOf returns the first one of some partitions that costs least.
func commonOf(all [][]int, views [][]int) []int {
	best := all[0]
	for _, a := range all {
		if costOf(a, views) < costOf(best, views) {
			best = a
		}
	}
	return best
}

// mostTogether reports whether more than half of some views have two things together.
func mostTogether(views [][]int, pair []int) bool {
	with, without := 0, 0
	for _, view := range views {
		if together(view, pair) {
			with++
		} else {
			without++
		}
	}
	return with > without
}

// mostOf returns that one of some partitions which has just the pairs together
// that more than half of some views have, if there is one.
func mostOf(all [][]int, views [][]int) ([]int, bool) {
	pairs := twoThings(len(views[0]))
	for _, a := range all {
		if !slices.ContainsFunc(pairs, func(pair []int) bool { return together(a, pair) != mostTogether(views, pair) }) {
			return a, true
		}
	}
	return nil, false
}

// meetOfAll returns what all of some views have together.
func meetOfAll(views [][]int) []int {
	meet := views[0]
	for _, view := range views {
		meet = meetOf(meet, view)
	}
	return meet
}

// stepsAround returns, for all partitions of n things as text, those one merge
// or one split away.
func stepsAround(n int) map[string][][]int {
	around := map[string][][]int{}
	for _, a := range partitions(n) {
		for _, m := range mergesOf(a) {
			around[fmt.Sprint(a)] = append(around[fmt.Sprint(a)], m)
			around[fmt.Sprint(m)] = append(around[fmt.Sprint(m)], a)
		}
	}
	return around
}

// pathsFrom returns, for all partitions as text, the fewest steps that lead to
// them from one, found by going one step further from all at once.
func pathsFrom(around map[string][][]int, a []int) map[string]int {
	paths := map[string]int{fmt.Sprint(a): 0}
	last := [][]int{a}
	for length := 1; len(last) > 0; length++ {
		var next [][]int
		for _, from := range last {
			for _, to := range around[fmt.Sprint(from)] {
				if _, met := paths[fmt.Sprint(to)]; !met {
					paths[fmt.Sprint(to)] = length
					next = append(next, to)
				}
			}
		}
		last = next
	}
	return paths
}

// movesOf returns the fewest things that must be left out, by its definition.
func movesOf(a []int, b []int) int {
	if sameTogether(a, b, inOrder(len(a))) {
		return 0
	}
	fewest := len(a)
	for i := range a {
		fewest = min(fewest, 1+movesOf(slices.Delete(slices.Clone(a), i, i+1), slices.Delete(slices.Clone(b), i, i+1)))
	}
	return fewest
}

// movesByBlocks returns the moves in another way: the things that stay are
// those that blocks of both have together, each block of one partition being
// given to another one of the other partition, or to none.
func movesByBlocks(a []int, b []int) int {
	stay := make([]int, 1<<blockTotal(b))
	for _, row := range shareOf(a, b) {
		next := slices.Clone(stay)
		for given, count := range stay {
			for number, both := range row {
				if given&(1<<number) == 0 {
					next[given|1<<number] = max(next[given|1<<number], count+both)
				}
			}
		}
		stay = next
	}
	return len(a) - slices.Max(stay)
}

// shareOf counts the things that two blocks both have, for all blocks.
func shareOf(a []int, b []int) [][]int {
	var rows [][]int
	for _, first := range blocksFrom(a) {
		var row []int
		for _, second := range blocksFrom(b) {
			both := 0
			for _, thing := range first {
				if slices.Contains(second, thing) {
					both++
				}
			}
			row = append(row, both)
		}
		rows = append(rows, row)
	}
	return rows
}

// manyOf returns all lists of so many of some partitions.
func manyOf(all [][]int, count int) [][][]int {
	if count == 0 {
		return [][][]int{{}}
	}
	var out [][][]int
	for _, ahead := range manyOf(all, count-1) {
		for _, a := range all {
			out = append(out, append(slices.Clone(ahead), a))
		}
	}
	return out
}

// viewLists calls for lists of views with all partitions of as many things:
// all lists of 1 to 6 views of at most 3 things, of 1 to 3 views of 4 things
// and of 1 or 2 views of 5 things, and chosen ones of more views of these, equal
// views among them.
func viewLists(check func(all [][]int, views [][]int)) {
	whole := []int{1: mostViews, 2: mostViews, 3: mostViews, 4: 3, mostSeen: 2}
	for n := 1; n <= mostSeen; n++ {
		all := partitions(n)
		for count := 1; count <= whole[n]; count++ {
			for _, views := range manyOf(all, count) {
				check(all, views)
			}
		}
		for i, a := range all {
			for count := whole[n] + 1; count <= mostViews; count++ {
				equal, near, far := [][]int{a}, [][]int{a}, [][]int{a}
				for k := 1; k < count; k++ {
					equal = append(equal, a)
					near = append(near, all[(i+k*k)%len(all)])
					far = append(far, all[(i*i+k*31+count)%len(all)])
				}
				for _, views := range [][][]int{equal, near, far, append(slices.Clone(far[1:]), far[1]), append(slices.Clone(near[:count-1]), a)} {
					check(all, views)
				}
			}
		}
	}
}

// sameViews returns so many views that are all the same.
func sameViews(a []int, count int) [][]int {
	var views [][]int
	for range count {
		views = append(views, a)
	}
	return views
}

// wrongViews calls for lists that are no views.
func wrongViews(check func(views [][]int)) {
	check(nil)
	check([][]int{})
	for n := 1; n <= mostSeen; n++ {
		for _, a := range [][]int{oneBlock(n), inOrder(n)} {
			for _, count := range []int{mostViews + 1, mostViews + 2, 64, 263, 300} {
				check(sameViews(a, count))
				check(append(sameViews(oneBlock(n), count-1), a))
			}
		}
	}
	for n := mostSeen + 1; n <= most+1; n++ {
		for count := 1; count <= mostViews+1; count++ {
			check(sameViews(oneBlock(n), count))
			check(sameViews(inOrder(n), count))
		}
	}
	for n := 1; n <= mostSeen; n++ {
		for count := 1; count <= mostViews; count++ {
			for _, view := range otherViews(n, count) {
				for place := range count {
					check(slices.Replace(sameViews(oneBlock(n), count), place, place+1, view))
				}
			}
		}
	}
}

// otherViews returns lists that can't stand among so many views of n things:
// partitions of more or fewer things, if there are others beside, and lists
// that are no partitions.
func otherViews(n int, count int) [][]int {
	out := wrongPartitions()
	for k := 1; k <= most+1; k++ {
		if k != n && count > 1 || k > mostSeen {
			out = append(out, oneBlock(k), inOrder(k))
		}
	}
	return out
}

// Promise 55.
func TestViewQuarrel(t *testing.T) {
	pairsOfPartitions(func(a []int, b []int) {
		got, ok := impl.ViewQuarrel(a, b)
		mustCount(t, quarrelOf(a, b), got, ok, "ViewQuarrel", a, b)
		other, ok := impl.ViewQuarrel(b, a)
		mustCount(t, got, other, ok, "ViewQuarrel", b, a)
		if (got == 0) != slices.Equal(a, b) {
			t.Fatalf("ViewQuarrel of %v and %v returned %d", a, b, got)
		}
		meet, _ := impl.FinerMeet(a, b)
		first, met := impl.ViewQuarrel(a, meet)
		second, ok := impl.ViewQuarrel(b, meet)
		if !met || !ok || first+second != got {
			t.Fatalf("ViewQuarrel of %v and %v returned %d, but with the meet %d and %d", a, b, got, first, second)
		}
	})
	wrongPairs(func(a []int, b []int) {
		got, ok := impl.ViewQuarrel(a, b)
		mustFailCount(t, got, ok, "ViewQuarrel", a, b)
	})
}

// Promise 56.
func TestViewPath(t *testing.T) {
	pairsOfPartitions(func(a []int, b []int) {
		got, ok := impl.ViewPath(a, b)
		up := 2*rankOf(joinOf(a, b)) - rankOf(a) - rankOf(b)
		down := rankOf(a) + rankOf(b) - 2*rankOf(meetOf(a, b))
		mustCount(t, up, got, ok, "ViewPath", a, b)
		mustCount(t, min(down, up), got, ok, "ViewPath", a, b)
		other, ok := impl.ViewPath(b, a)
		mustCount(t, got, other, ok, "ViewPath", b, a)
		if quarrel, ok := impl.ViewQuarrel(a, b); !ok || got > quarrel {
			t.Fatalf("ViewPath of %v and %v returned %d, but ViewQuarrel %d", a, b, got, quarrel)
		}
	})
	wrongPairs(func(a []int, b []int) {
		got, ok := impl.ViewPath(a, b)
		mustFailCount(t, got, ok, "ViewPath", a, b)
	})
}

// Rule of the document: the path is the fewest merges and splits, from all
// partitions of at most 5 things and from chosen ones of more.
func TestViewPathSteps(t *testing.T) {
	for n := 1; n <= most; n++ {
		around := stepsAround(n)
		all := partitions(n)
		starts := all
		if n > 5 {
			starts = [][]int{oneBlock(n), inOrder(n), all[len(all)/2], all[len(all)/3]}
		}
		for _, a := range starts {
			paths := pathsFrom(around, a)
			for _, b := range all {
				got, ok := impl.ViewPath(a, b)
				mustCount(t, paths[fmt.Sprint(b)], got, ok, "ViewPath", a, b)
			}
		}
	}
}

// Promise 57.
func TestViewMoves(t *testing.T) {
	pairsOfPartitions(func(a []int, b []int) {
		got, ok := impl.ViewMoves(a, b)
		mustCount(t, movesByBlocks(a, b), got, ok, "ViewMoves", a, b)
		if len(a) <= 5 {
			mustCount(t, movesOf(a, b), got, ok, "ViewMoves", a, b)
		}
		if got >= len(a) || (got == 0) != slices.Equal(a, b) {
			t.Fatalf("ViewMoves of %v and %v returned %d", a, b, got)
		}
		other, ok := impl.ViewMoves(b, a)
		mustCount(t, got, other, ok, "ViewMoves", b, a)
		first, _ := impl.PartTurned(a)
		second, _ := impl.PartTurned(b)
		turned, ok := impl.ViewMoves(first, second)
		mustCount(t, got, turned, ok, "ViewMoves", first, second)
	})
	wrongPairs(func(a []int, b []int) {
		got, ok := impl.ViewMoves(a, b)
		mustFailCount(t, got, ok, "ViewMoves", a, b)
	})
}

// Promise 58.
func TestViewShare(t *testing.T) {
	pairsOfPartitions(func(a []int, b []int) {
		rows, ok := impl.ViewShare(a, b)
		mustLists(t, shareOf(a, b), rows, ok, "ViewShare", a, b)
		blocks, _ := impl.PartBlocks(a)
		var parts []int
		for i, row := range rows {
			sum := 0
			for _, count := range row {
				sum += count
				if count != 0 {
					parts = append(parts, count)
				}
			}
			if sum != len(blocks[i]) {
				t.Fatalf("ViewShare of %v and %v returned %v: the row %d adds up to %d", a, b, rows, i, sum)
			}
		}
		meet, _ := impl.FinerMeet(a, b)
		sizes, ok := impl.PartType(meet)
		slices.Sort(parts)
		slices.Reverse(parts)
		mustBe(t, parts, sizes, ok, "PartType", meet)
	})
	wrongPairs(func(a []int, b []int) {
		got, ok := impl.ViewShare(a, b)
		mustFailLists(t, got, ok, "ViewShare", a, b)
	})
}

// viewPair is two partitions with all that this chapter makes of them.
type viewPair struct {
	a, b                 []int
	quarrel, path, moves int
	share                [][]int
}

// checkViewPair asks all functions of two partitions.
func checkViewPair(t *testing.T, c viewPair) {
	t.Helper()
	for _, order := range [][2][]int{{c.a, c.b}, {c.b, c.a}} {
		quarrel, ok := impl.ViewQuarrel(order[0], order[1])
		mustCount(t, c.quarrel, quarrel, ok, "ViewQuarrel", order)
		path, ok := impl.ViewPath(order[0], order[1])
		mustCount(t, c.path, path, ok, "ViewPath", order)
		moves, ok := impl.ViewMoves(order[0], order[1])
		mustCount(t, c.moves, moves, ok, "ViewMoves", order)
	}
	share, ok := impl.ViewShare(c.a, c.b)
	mustLists(t, c.share, share, ok, "ViewShare", c.a, c.b)
}

// Rule of the document: written out, two partitions of one thing, of some and of ThingsMax things.
func TestViewPairsWritten(t *testing.T) {
	cases := []viewPair{
		{a: []int{0}, b: []int{0}, share: [][]int{{1}}},
		{a: []int{0, 0}, b: []int{0, 1}, quarrel: 1, path: 1, moves: 1, share: [][]int{{1, 1}}},
		{a: []int{0, 1}, b: []int{0, 0}, quarrel: 1, path: 1, moves: 1, share: [][]int{{1}, {1}}},
		{a: []int{0, 0, 1}, b: []int{0, 1, 1}, quarrel: 2, path: 2, moves: 1, share: [][]int{{1, 1}, {0, 1}}},
		{a: []int{0, 0, 1, 1}, b: []int{0, 1, 0, 1}, quarrel: 4, path: 2, moves: 2, share: [][]int{{1, 1}, {1, 1}}},
		// The way by the meet would be 8 steps long.
		{a: []int{0, 0, 1, 1, 2, 2, 3, 3}, b: []int{0, 1, 1, 2, 2, 3, 3, 0}, quarrel: 8, path: 6, moves: 4, share: [][]int{{1, 1, 0, 0}, {0, 1, 1, 0}, {0, 0, 1, 1}, {1, 0, 0, 1}}},
		{a: []int{0, 0, 0, 0, 1, 1, 1, 1}, b: []int{0, 1, 0, 1, 0, 1, 0, 1}, quarrel: 16, path: 2, moves: 4, share: [][]int{{2, 2}, {2, 2}}},
		{a: []int{0, 0, 0, 1, 1, 1, 2, 2}, b: []int{0, 0, 0, 0, 1, 1, 1, 2}, quarrel: 8, path: 4, moves: 2, share: [][]int{{3, 0, 0}, {1, 2, 0}, {0, 1, 1}}},
		// The greatest share of both is not the best one to take: with it 4 things stay, without it 5.
		{a: []int{0, 0, 0, 0, 0, 1, 1, 2}, b: []int{0, 0, 0, 1, 1, 0, 0, 2}, quarrel: 12, path: 2, moves: 3, share: [][]int{{3, 2, 0}, {2, 0, 0}, {0, 0, 1}}},
	}
	for _, c := range cases {
		checkViewPair(t, c)
	}
}

// Rule of the document: equal partitions agree on all pairs, and one block and
// things alone on none.
func TestViewPairsAtTheEnds(t *testing.T) {
	for n := 1; n <= most; n++ {
		var sizes, alone [][]int
		for i := range n {
			sizes = append(sizes, []int{1})
			row := make([]int, n)
			row[i] = 1
			alone = append(alone, row)
		}
		checkViewPair(t, viewPair{a: oneBlock(n), b: oneBlock(n), share: [][]int{{n}}})
		checkViewPair(t, viewPair{a: inOrder(n), b: inOrder(n), share: alone})
		checkViewPair(t, viewPair{a: inOrder(n), b: oneBlock(n), quarrel: n * (n - 1) / 2, path: n - 1, moves: n - 1, share: sizes})
	}
}

// Promise 59.
func TestViewCommon(t *testing.T) {
	viewLists(func(all [][]int, views [][]int) {
		common, ok := impl.ViewCommon(views)
		mustBe(t, commonOf(all, views), common, ok, "ViewCommon", views)
		cost, _ := impl.ViewCost(common, views)
		for _, view := range views {
			if other, ok := impl.ViewCost(view, views); !ok || other < cost {
				t.Fatalf("ViewCommon of %v returned %v, which costs %d, but %v costs %d", views, common, cost, view, other)
			}
		}
	})
	wrongViews(func(views [][]int) {
		got, ok := impl.ViewCommon(views)
		mustFail(t, got, ok, "ViewCommon", views)
	})
}

// Promise 60.
func TestViewCost(t *testing.T) {
	viewLists(func(all [][]int, views [][]int) {
		for _, a := range [][]int{all[0], all[len(all)-1], views[0], views[len(views)-1], all[len(all)/2]} {
			sum := 0
			for _, view := range views {
				quarrel, ok := impl.ViewQuarrel(a, view)
				if !ok {
					t.Fatalf("ViewQuarrel of %v and %v fails", a, view)
				}
				sum += quarrel
			}
			got, ok := impl.ViewCost(a, views)
			mustCount(t, sum, got, ok, "ViewCost", a, views)
			mustCount(t, costOf(a, views), got, ok, "ViewCost", a, views)
		}
	})
	wrongViews(func(views [][]int) {
		for n := 1; n <= most; n++ {
			got, ok := impl.ViewCost(oneBlock(n), views)
			mustFailCount(t, got, ok, "ViewCost", oneBlock(n), views)
		}
		got, ok := impl.ViewCost(nil, views)
		mustFailCount(t, got, ok, "ViewCost", nil, views)
	})
}

// Rule of the document: it also fails if the partition has not as many things as the views, or is none.
func TestViewCostFails(t *testing.T) {
	for n := 1; n <= mostSeen; n++ {
		for count := 1; count <= mostViews; count++ {
			wrong := wrongPartitions()
			for k := 1; k <= most+1; k++ {
				if k != n {
					wrong = append(wrong, oneBlock(k), inOrder(k))
				}
			}
			for _, a := range wrong {
				for _, view := range [][]int{oneBlock(n), inOrder(n)} {
					got, ok := impl.ViewCost(a, sameViews(view, count))
					mustFailCount(t, got, ok, "ViewCost", a, view, count)
				}
			}
		}
	}
}

// Promise 61.
func TestViewMost(t *testing.T) {
	held := 0
	viewLists(func(all [][]int, views [][]int) {
		want, is := mostOf(all, views)
		if got := impl.ViewMost(views); got != is {
			t.Fatalf("ViewMost of %v is %v", views, got)
		}
		if !is {
			return
		}
		held++
		cost, ok := impl.ViewCost(want, views)
		common, _ := impl.ViewCommon(views)
		least, known := impl.ViewCost(common, views)
		if !ok || !known || cost != least {
			t.Fatalf("most of %v have the pairs of %v, which costs %d, but ViewCommon %v costs %d", views, want, cost, common, least)
		}
	})
	if held == 0 {
		t.Fatal("ViewMost holds for no views")
	}
	wrongViews(func(views [][]int) {
		if impl.ViewMost(views) {
			t.Fatalf("ViewMost holds for %v", views)
		}
	})
}

// Promise 62.
func TestViewMeet(t *testing.T) {
	viewLists(func(_ [][]int, views [][]int) {
		meet, ok := impl.ViewMeet(views)
		mustBe(t, meetOfAll(views), meet, ok, "ViewMeet", views)
		for _, view := range views {
			if !impl.FinerIn(meet, view) {
				t.Fatalf("ViewMeet of %v returned %v, which is not finer than %v", views, meet, view)
			}
		}
	})
	wrongViews(func(views [][]int) {
		got, ok := impl.ViewMeet(views)
		mustFail(t, got, ok, "ViewMeet", views)
	})
}

// viewCase is some views with all that this chapter makes of them.
type viewCase struct {
	views        [][]int
	common, meet []int
	cost         int
	most         bool
}

// checkViews asks all functions of some views.
func checkViews(t *testing.T, c viewCase) {
	t.Helper()
	common, ok := impl.ViewCommon(c.views)
	mustBe(t, c.common, common, ok, "ViewCommon", c.views)
	cost, ok := impl.ViewCost(c.common, c.views)
	mustCount(t, c.cost, cost, ok, "ViewCost", c.common, c.views)
	meet, ok := impl.ViewMeet(c.views)
	mustBe(t, c.meet, meet, ok, "ViewMeet", c.views)
	if got := impl.ViewMost(c.views); got != c.most {
		t.Fatalf("ViewMost of %v is %v", c.views, got)
	}
}

// Rule of the document: one view alone, and equal ones, are what they have in common.
func TestOneViewAlone(t *testing.T) {
	for _, a := range partitionsTo(mostSeen) {
		for count := 1; count <= mostViews; count++ {
			views := sameViews(a, count)
			checkViews(t, viewCase{views: views, common: a, meet: a, most: true})
			for _, other := range [][]int{oneBlock(len(a)), inOrder(len(a))} {
				cost, ok := impl.ViewCost(other, views)
				mustCount(t, count*quarrelOf(a, other), cost, ok, "ViewCost", other, views)
			}
		}
	}
}

// Rule of the document: written out, common views that are first of several
// ones, or no view themselves, and pairs that half of the views have.
func TestViewsWritten(t *testing.T) {
	cases := []viewCase{
		{views: [][]int{{0}}, common: []int{0}, meet: []int{0}, most: true},
		{views: [][]int{{0}, {0}, {0}, {0}, {0}, {0}}, common: []int{0}, meet: []int{0}, most: true},
		// Just half have the pair: it is not together, but as cheap together, and this comes first.
		{views: [][]int{{0, 0}, {0, 1}}, common: []int{0, 0}, cost: 1, meet: []int{0, 1}, most: true},
		{views: [][]int{{0, 1}, {0, 0}}, common: []int{0, 0}, cost: 1, meet: []int{0, 1}, most: true},
		{views: [][]int{{0, 1}, {0, 0}, {0, 1}}, common: []int{0, 1}, cost: 1, meet: []int{0, 1}, most: true},
		{views: [][]int{{0, 0, 1}, {0, 0, 1}, {0, 1, 1}}, common: []int{0, 0, 1}, cost: 2, meet: []int{0, 1, 2}, most: true},
		// Both common views are views.
		{views: [][]int{{0, 1, 0}, {0, 0, 1}}, common: []int{0, 0, 1}, cost: 2, meet: []int{0, 1, 2}, most: true},
		// Each pair has just one of three views: the common view is none of them.
		{views: [][]int{{0, 0, 1}, {0, 1, 0}, {0, 1, 1}}, common: []int{0, 1, 2}, cost: 3, meet: []int{0, 1, 2}, most: true},
		// Each pair has just half of the views: all five partitions are common views.
		{views: [][]int{{0, 1, 1}, {0, 1, 0}, {0, 0, 1}, {0, 0, 0}}, common: []int{0, 0, 0}, cost: 6, meet: []int{0, 1, 2}, most: true},
		// Two pairs that meet in a thing, but not the third one.
		{views: [][]int{{0, 0, 1}, {0, 1, 1}, {0, 0, 0}}, common: []int{0, 0, 0}, cost: 4, meet: []int{0, 1, 2}},
		// Three pairs in a row, which no view has all.
		{views: [][]int{{0, 0, 0, 1}, {0, 1, 1, 1}, {0, 0, 1, 1}}, common: []int{0, 0, 1, 1}, cost: 6, meet: []int{0, 1, 2, 3}},
		// The pairs 0 and 1, 2 and 3 are the common view, which is no view.
		{views: [][]int{{0, 0, 1, 1, 0}, {0, 0, 1, 1, 1}, {0, 1, 2, 2, 3}}, common: []int{0, 0, 1, 1, 2}, cost: 5, meet: []int{0, 1, 2, 2, 3}, most: true},
		// Three of six views have each of both pairs, and four the pair of 3 and 4.
		{
			views:  [][]int{{0, 0, 1, 2, 2}, {0, 1, 1, 2, 2}, {0, 0, 1, 2, 2}, {0, 1, 1, 2, 2}, {0, 0, 1, 2, 3}, {0, 1, 1, 2, 3}},
			common: []int{0, 0, 1, 2, 2}, cost: 8, meet: []int{0, 1, 2, 3, 4}, most: true,
		},
	}
	for _, c := range cases {
		checkViews(t, c)
	}
}

// Rule of the document: the order of the views makes no difference.
func TestViewsInAnyOrder(t *testing.T) {
	viewLists(func(all [][]int, views [][]int) {
		if len(all) < bell[4] {
			return
		}
		common, _ := impl.ViewCommon(views)
		cost, _ := impl.ViewCost(common, views)
		meet, _ := impl.ViewMeet(views)
		c := viewCase{views: slices.Clone(views), common: common, cost: cost, meet: meet, most: impl.ViewMost(views)}
		rotate(c.views, 1)
		checkViews(t, c)
		slices.Reverse(c.views)
		checkViews(t, c)
	})
}

// chosenViews returns lists of views, some of each number of views and of
// things, and lists that are none.
func chosenViews() [][][]int {
	var out [][][]int
	step := 0
	viewLists(func(_ [][]int, views [][]int) {
		if step++; step%97 == 0 {
			out = append(out, views)
		}
	})
	wrongViews(func(views [][]int) {
		if step++; step%97 == 0 {
			out = append(out, views)
		}
	})
	for n := 1; n <= mostSeen; n++ {
		out = append(out, sameViews(inOrder(n), 1), sameViews(oneBlock(n), mostViews))
	}
	return append(out, nil, [][]int{nil}, sameViews(inOrder(most), 2), sameViews(oneBlock(2), mostViews+1))
}

// viewQuestions returns calls of all functions of this chapter, wrong ones among them.
func viewQuestions() []question {
	var out []question
	put := func(name string, ask func() string) {
		out = append(out, question{name, ask})
	}
	all := slices.Concat(partitionsTo(4), wrongPartitions(), [][]int{inOrder(most), oneBlock(most), {0, 1, 0, 2, 1, 3, 0, 2}})
	for i, a := range all {
		for _, b := range [][]int{a, oneBlock(len(a)), inOrder(len(a)), all[(i*i+3)%len(all)]} {
			put("ViewQuarrel", func() string { return fmt.Sprint(impl.ViewQuarrel(a, b)) })
			put("ViewPath", func() string { return fmt.Sprint(impl.ViewPath(a, b)) })
			put("ViewShare", func() string { return fmt.Sprint(impl.ViewShare(a, b)) })
			put("ViewMoves", func() string { return fmt.Sprint(impl.ViewMoves(a, b)) })
		}
	}
	for _, views := range chosenViews() {
		for _, a := range append(slices.Clone(views), inOrder(3), nil) {
			put("ViewCost", func() string { return fmt.Sprint(impl.ViewCost(a, views)) })
		}
		put("ViewCommon", func() string { return fmt.Sprint(impl.ViewCommon(views)) })
		put("ViewMost", func() string { return fmt.Sprint(impl.ViewMost(views)) })
		put("ViewMeet", func() string { return fmt.Sprint(impl.ViewMeet(views)) })
	}
	return out
}

// Rule of the document: functions keep no state between calls, so that the same question has the same answer.
func TestViewsAgain(t *testing.T) {
	checkAgain(t, viewQuestions())
}

// Rule of the document: the result depends on the arguments alone, also if many
// ask at once and of the same views, and no goroutine stays behind.
func TestViewsAtOnce(t *testing.T) {
	before := runtime.NumGoroutine()
	questions := viewQuestions()
	want := make([]string, len(questions))
	for i, q := range questions {
		want[i] = q.ask()
	}
	var askers sync.WaitGroup
	for asker := range 8 {
		askers.Go(func() {
			for i := range questions {
				i = (i + asker*asker) % len(questions)
				if answer := questions[i].ask(); answer != want[i] {
					t.Errorf("%s returned %s alone and %s among others", questions[i].name, want[i], answer)
				}
			}
		})
	}
	askers.Wait()
	// A goroutine is counted until it has ended, which is a moment after it is joined.
	for range 100000 {
		if runtime.NumGoroutine() <= before {
			return
		}
		runtime.Gosched()
	}
	t.Fatalf("%d goroutines at first, and %d are left", before, runtime.NumGoroutine())
}

// Rule of the document: arguments stay as they were, and results share no memory.
func TestViewPairsMemory(t *testing.T) {
	check := func(a []int, b []int) {
		both := [][]int{a, b}
		checkApart(t, "ViewShare", both, func(g [][]int) [][]int {
			rows, _ := impl.ViewShare(g[0], g[1])
			return rows
		})
		checkApart(t, "ViewQuarrel", both, func(g [][]int) [][]int { return none(impl.ViewQuarrel(g[0], g[1])) })
		checkApart(t, "ViewPath", both, func(g [][]int) [][]int { return none(impl.ViewPath(g[0], g[1])) })
		checkApart(t, "ViewMoves", both, func(g [][]int) [][]int { return none(impl.ViewMoves(g[0], g[1])) })
	}
	for _, a := range slices.Concat(partitionsTo(4), [][]int{{0, 1, 0, 2, 1, 3, 0, 2}, inOrder(most), oneBlock(most)}) {
		for _, b := range slices.Concat(partitions(min(len(a), 4)), [][]int{inOrder(len(a)), oneBlock(len(a))}) {
			check(a, b)
			check(b, a)
		}
		checkApart(t, "ViewShare of one list", [][]int{a}, func(g [][]int) [][]int {
			rows, _ := impl.ViewShare(g[0], g[0])
			return rows
		})
	}
	wrongPairs(check)
}

// Rule of the document: views stay as they were and where they were, and no
// result shares memory with them, also if there is one alone or one comes again.
func TestViewsMemory(t *testing.T) {
	for _, views := range chosenViews() {
		checkApart(t, "ViewCommon", views, func(g [][]int) [][]int { return one(impl.ViewCommon(g)) })
		checkApart(t, "ViewMeet", views, func(g [][]int) [][]int { return one(impl.ViewMeet(g)) })
		checkApart(t, "ViewMost", views, func(g [][]int) [][]int { return none(impl.ViewMost(g)) })
		for _, a := range append(slices.Clone(views), inOrder(3), nil) {
			given := append([][]int{a}, views...)
			checkApart(t, "ViewCost", given, func(g [][]int) [][]int { return none(impl.ViewCost(g[0], g[1:])) })
		}
	}
	for _, a := range partitionsTo(mostSeen) {
		checkApart(t, "ViewCommon of one list", [][]int{a}, func(g [][]int) [][]int { return one(impl.ViewCommon([][]int{g[0], g[0], g[0]})) })
		checkApart(t, "ViewMeet of one list", [][]int{a}, func(g [][]int) [][]int { return one(impl.ViewMeet([][]int{g[0], g[0], g[0]})) })
		checkApart(t, "ViewCost of one list", [][]int{a}, func(g [][]int) [][]int { return none(impl.ViewCost(g[0], [][]int{g[0], g[0]})) })
	}
}

// Rule of the document: results share no memory with those of other functions either.
func TestViewsApart(t *testing.T) {
	checkApart(t, "all functions of views", [][]int{{0, 0, 1, 1, 0}, {0, 0, 1, 1, 1}, {0, 1, 2, 2, 3}}, func(g [][]int) [][]int {
		rows, _ := impl.ViewShare(g[0], g[2])
		turned, _ := impl.ViewShare(g[2], g[0])
		common, _ := impl.ViewCommon(g)
		alone, _ := impl.ViewCommon(g[:1])
		meet, _ := impl.ViewMeet(g)
		self, _ := impl.ViewMeet(g[:1])
		return slices.Concat(rows, turned, [][]int{common, alone, meet, self})
	})
}
