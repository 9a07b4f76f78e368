package tests

import (
	"fmt"
	"math/bits"
	"slices"
	"testing"

	"loop.example/setparts/impl"
)

// The greatest number of things of a pair list, written out as in most.
const mostPaired = 6

// isPairList is the document's definition, word by word.
func isPairList(n int, told [][]int) bool {
	if n < 1 || n > mostPaired {
		return false
	}
	for i, pair := range told {
		if len(pair) != 2 || pair[0] < 0 || pair[0] >= pair[1] || pair[1] >= n {
			return false
		}
		if i > 0 && slices.Compare(told[i-1], pair) >= 0 {
			return false
		}
	}
	return true
}

// pairWorld has all pairs of n things, and all pair lists of them as sets that
// have a bit for each of these pairs.
type pairWorld struct {
	n   int
	two [][]int
	// all has all partitions, and wholes the set of the pairs of each one.
	all    [][]int
	wholes []int
	// changes has, for each set, the fewest changes by which it becomes whole.
	changes []int
}

// newPairWorld counts the changes by going one change further from all sets at
// once, the whole ones first.
func newPairWorld(n int) pairWorld {
	w := pairWorld{n: n, two: twoThings(n), all: partitions(n)}
	w.changes = slices.Repeat([]int{-1}, 1<<len(w.two))
	for _, a := range w.all {
		set := w.setOf(a)
		w.wholes = append(w.wholes, set)
		w.changes[set] = 0
	}
	last := w.wholes
	for count := 1; len(last) > 0; count++ {
		var next []int
		for _, set := range last {
			for i := range w.two {
				if other := set ^ 1<<i; w.changes[other] < 0 {
					w.changes[other] = count
					next = append(next, other)
				}
			}
		}
		last = next
	}
	return w
}

// setOf returns the set of the pairs of a partition.
func (w pairWorld) setOf(a []int) int {
	set := 0
	for i, pair := range w.two {
		if together(a, pair) {
			set |= 1 << i
		}
	}
	return set
}

// other returns the set of all pairs that a set has not.
func (w pairWorld) other(set int) int {
	return set ^ (len(w.changes) - 1)
}

// best returns the first partition whose pairs are just as many changes away
// from a set as needed.
func (w pairWorld) best(set int) []int {
	for i, a := range w.all {
		if bits.OnesCount(uint(set^w.wholes[i])) == w.changes[set] {
			return a
		}
	}
	return nil
}

// pairLists calls for all pair lists of 1 to so many things.
func pairLists(things int, check func(w pairWorld, set int, list [][]int)) {
	for n := 1; n <= things; n++ {
		w := newPairWorld(n)
		for set := range w.changes {
			check(w, set, chosenOf(w.two, set))
		}
	}
}

// somePairLists calls for all pair lists of at most 4 things, and for one of so
// many of 5 and 6 things, no pairs and all pairs among them.
func somePairLists(step int, check func(n int, list [][]int)) {
	pairLists(mostPaired, func(w pairWorld, set int, list [][]int) {
		if w.n <= 4 || set%step == 0 || w.other(set) == 0 {
			check(w.n, list)
		}
	})
}

// threesOf counts the sets of three things that have just two pairs of a list.
func threesOf(n int, list [][]int) int {
	count := 0
	for k := range n {
		for j := range k {
			for i := range j {
				pairs := 0
				for _, pair := range [][]int{{i, j}, {i, k}, {j, k}} {
					if hasArc(list, pair[0], pair[1]) {
						pairs++
					}
				}
				if pairs == 2 {
					count++
				}
			}
		}
	}
	return count
}

// justInOne counts the pairs that are just in one of two lists.
func justInOne(a [][]int, b [][]int) int {
	count := 0
	for _, pair := range slices.Concat(a, b) {
		if hasArc(a, pair[0], pair[1]) != hasArc(b, pair[0], pair[1]) {
			count++
		}
	}
	return count
}

// wrongPairLists calls for what is no pair list of n things: other n, a list
// that is no pair at each place among others, one pair told twice, and pairs
// that do not ascend.
func wrongPairLists(check func(n int, told [][]int)) {
	for _, n := range wrongThings(mostPaired) {
		for _, told := range [][][]int{nil, {}, {{}}, {{0, 1}}, {{0, 1}, {1, 2}}, {{1, 0}}, {{0, 0}}, {{5, 6}}, twoThings(4), twoThings(mostPaired + 1)} {
			check(n, told)
		}
	}
	for n := 1; n <= mostPaired; n++ {
		bases := [][][]int{nil, twoThings(n), arcsFrom(oneBlock(n)), arcsFrom(connected(n, [][]int{{0, n - 1}}))}
		for _, base := range bases {
			for place := range len(base) + 1 {
				for _, wrong := range wrongArcs(n) {
					check(n, slices.Insert(slices.Clone(base), place, wrong))
				}
				for _, again := range base {
					check(n, slices.Insert(slices.Clone(base), place, again))
				}
			}
		}
		for _, pair := range twoThings(n) {
			check(n, slices.Repeat([][]int{pair}, 1000))
		}
	}
	somePairLists(37, func(n int, list [][]int) {
		for _, told := range inOrders(list) {
			if !sameLists(told, list) {
				check(n, told)
			}
		}
		for i := 1; i < len(list); i++ {
			told := slices.Clone(list)
			told[i-1], told[i] = list[i], list[i-1]
			check(n, told)
		}
	})
}

// mustFailPairs fails the test unless no function makes anything of what is no pair list.
func mustFailPairs(t *testing.T, n int, told [][]int) {
	t.Helper()
	if impl.PairIn(n, told) {
		t.Fatalf("PairIn holds for %d and %v", n, told)
	}
	if impl.PairWhole(n, told) {
		t.Fatalf("PairWhole holds for %d and %v", n, told)
	}
	part, ok := impl.PairPart(n, told)
	mustFail(t, part, ok, "PairPart", n, told)
	changes, ok := impl.PairChanges(n, told)
	mustFailCount(t, changes, ok, "PairChanges", n, told)
	best, ok := impl.PairBest(n, told)
	mustFail(t, best, ok, "PairBest", n, told)
	threes, ok := impl.PairThree(n, told)
	mustFailCount(t, threes, ok, "PairThree", n, told)
	other, ok := impl.PairOther(n, told)
	mustFailLists(t, other, ok, "PairOther", n, told)
}

// Promises 63 and 70.
func TestPairOther(t *testing.T) {
	pairLists(mostPaired, func(w pairWorld, set int, list [][]int) {
		if !impl.PairIn(w.n, list) {
			t.Fatalf("PairIn does not hold for %d and %v", w.n, list)
		}
		other, ok := impl.PairOther(w.n, list)
		mustLists(t, chosenOf(w.two, w.other(set)), other, ok, "PairOther", w.n, list)
		if len(list)+len(other) != w.n*(w.n-1)/2 || !impl.PairIn(w.n, other) {
			t.Fatalf("PairOther of %d and %v returned %v", w.n, list, other)
		}
		back, ok := impl.PairOther(w.n, other)
		mustLists(t, list, back, ok, "PairOther", w.n, other)
	})
}

// Rule of the document: pairs are two different ones of n things, the lesser
// one first, in ascending order as lists, each at most once, and n is in its range.
func TestPairIn(t *testing.T) {
	held := 0
	for n := 0; n <= 3; n++ {
		two := lists(2, -1, n)
		for count := range 4 {
			for _, told := range manyOf(two, count) {
				got, want := impl.PairIn(n, told), isPairList(n, told)
				if got != want {
					t.Fatalf("PairIn of %d and %v is %v", n, told, got)
				}
				if got {
					held++
				}
			}
		}
	}
	if held != 1+2+8 {
		t.Fatalf("PairIn holds for %d lists of at most 3 things", held)
	}
	for n := 1; n <= mostPaired; n++ {
		for k := 1; k <= most+1; k++ {
			if got := impl.PairIn(n, twoThings(k)); got != (k <= n) {
				t.Fatalf("PairIn of %d and all pairs of %d things is %v", n, k, got)
			}
		}
	}
}

// Rule of the document: what is made of pair lists fails if something is not as told.
func TestPairsFail(t *testing.T) {
	wrongPairLists(func(n int, told [][]int) {
		if isPairList(n, told) {
			t.Fatalf("%v is a pair list of %d things", told, n)
		}
		mustFailPairs(t, n, told)
	})
}

// Promise 64.
func TestPairOf(t *testing.T) {
	for n := 1; n <= mostPaired; n++ {
		w := newPairWorld(n)
		for i, a := range w.all {
			pairs, ok := impl.PairOf(a)
			mustLists(t, chosenOf(w.two, w.wholes[i]), pairs, ok, "PairOf", a)
			if !impl.PairWhole(n, pairs) {
				t.Fatalf("PairOf of %v returned %v, which is not whole", a, pairs)
			}
			part, ok := impl.PairPart(n, pairs)
			mustBe(t, a, part, ok, "PairPart", n, pairs)
		}
	}
	for _, a := range slices.Concat(wrongPartitions(), partitions(mostPaired+1), partitions(most), partitions(most+1)) {
		got, ok := impl.PairOf(a)
		mustFailLists(t, got, ok, "PairOf", a)
	}
}

// Promise 65.
func TestPairPart(t *testing.T) {
	pairLists(mostPaired, func(w pairWorld, _ int, list [][]int) {
		part, ok := impl.PairPart(w.n, list)
		mustBe(t, connected(w.n, list), part, ok, "PairPart", w.n, list)
		for _, pair := range list {
			if !impl.PartTogether(part, pair[0], pair[1]) {
				t.Fatalf("PairPart of %d and %v returned %v, which parts %v", w.n, list, part, pair)
			}
		}
		if blocks, ok := impl.PartSize(part); !ok || blocks < w.n-len(list) {
			t.Fatalf("PairPart of %d and %v returned %v, of %d blocks", w.n, list, part, blocks)
		}
	})
}

// Promise 66: as many pair lists are whole as there are partitions.
func TestPairWhole(t *testing.T) {
	held := make([]int, mostPaired+1)
	pairLists(mostPaired, func(w pairWorld, set int, list [][]int) {
		got := impl.PairWhole(w.n, list)
		if got != slices.Contains(w.wholes, set) {
			t.Fatalf("PairWhole of %d and %v is %v", w.n, list, got)
		}
		if !got {
			return
		}
		held[w.n]++
		threes, ok := impl.PairThree(w.n, list)
		mustCount(t, 0, threes, ok, "PairThree", w.n, list)
		changes, ok := impl.PairChanges(w.n, list)
		mustCount(t, 0, changes, ok, "PairChanges", w.n, list)
		part, _ := impl.PairPart(w.n, list)
		best, ok := impl.PairBest(w.n, list)
		mustBe(t, part, best, ok, "PairBest", w.n, list)
	})
	if !slices.Equal(held[1:], bell[1:mostPaired+1]) {
		t.Fatalf("PairWhole holds for so many lists of 1 to %d things: %v", mostPaired, held[1:])
	}
}

// Promises 67 and 68: the changes are as found by going through all lists one
// change at a time, and the best partition is the first one so near.
func TestPairChangesAndBest(t *testing.T) {
	pairLists(mostPaired, func(w pairWorld, set int, list [][]int) {
		changes, ok := impl.PairChanges(w.n, list)
		mustCount(t, w.changes[set], changes, ok, "PairChanges", w.n, list)
		other, _ := impl.PairOther(w.n, list)
		if changes > len(list) || changes > len(other) || (changes == 0) != impl.PairWhole(w.n, list) {
			t.Fatalf("PairChanges of %d and %v returned %d", w.n, list, changes)
		}
		best, ok := impl.PairBest(w.n, list)
		mustBe(t, w.best(set), best, ok, "PairBest", w.n, list)
		pairs, ok := impl.PairOf(best)
		if just := justInOne(pairs, list); !ok || just != changes {
			t.Fatalf("PairBest of %d and %v returned %v, %d changes away: PairChanges returned %d", w.n, list, best, just, changes)
		}
	})
}

// Promise 69.
func TestPairThree(t *testing.T) {
	pairLists(mostPaired, func(w pairWorld, _ int, list [][]int) {
		threes, ok := impl.PairThree(w.n, list)
		mustCount(t, threesOf(w.n, list), threes, ok, "PairThree", w.n, list)
		if (threes == 0) != impl.PairWhole(w.n, list) {
			t.Fatalf("PairThree of %d and %v returned %d", w.n, list, threes)
		}
	})
}

// pairCase is a pair list with all that this chapter makes of it.
type pairCase struct {
	n               int
	pairs, other    [][]int
	part, best      []int
	changes, threes int
}

// checkPairs asks all functions of one pair list.
func checkPairs(t *testing.T, c pairCase) {
	t.Helper()
	if !impl.PairIn(c.n, c.pairs) {
		t.Fatalf("PairIn does not hold for %d and %v", c.n, c.pairs)
	}
	if got := impl.PairWhole(c.n, c.pairs); got != (c.changes == 0) {
		t.Fatalf("PairWhole of %d and %v is %v", c.n, c.pairs, got)
	}
	part, ok := impl.PairPart(c.n, c.pairs)
	mustBe(t, c.part, part, ok, "PairPart", c.n, c.pairs)
	changes, ok := impl.PairChanges(c.n, c.pairs)
	mustCount(t, c.changes, changes, ok, "PairChanges", c.n, c.pairs)
	best, ok := impl.PairBest(c.n, c.pairs)
	mustBe(t, c.best, best, ok, "PairBest", c.n, c.pairs)
	threes, ok := impl.PairThree(c.n, c.pairs)
	mustCount(t, c.threes, threes, ok, "PairThree", c.n, c.pairs)
	other, ok := impl.PairOther(c.n, c.pairs)
	mustLists(t, c.other, other, ok, "PairOther", c.n, c.pairs)
}

// Rule of the document: no pairs, a nil list or an empty one, are those of
// things alone, and all pairs those of one block; one thing alone has none.
func TestPairsAtTheEnds(t *testing.T) {
	for n := 1; n <= mostPaired; n++ {
		for _, none := range [][][]int{nil, {}} {
			checkPairs(t, pairCase{n: n, pairs: none, other: twoThings(n), part: inOrder(n), best: inOrder(n)})
		}
		checkPairs(t, pairCase{n: n, pairs: twoThings(n), part: oneBlock(n), best: oneBlock(n)})
		for _, a := range [][]int{inOrder(n), oneBlock(n)} {
			want := [][]int{}
			if a[n-1] == 0 {
				want = twoThings(n)
			}
			got, ok := impl.PairOf(a)
			mustLists(t, want, got, ok, "PairOf", a)
		}
	}
}

// Rule of the document: written out, lists that are whole and that are not, and
// several partitions that come by as few changes.
func TestPairsWritten(t *testing.T) {
	cases := []pairCase{
		{n: 2, pairs: [][]int{{0, 1}}, part: []int{0, 0}, best: []int{0, 0}},
		{n: 3, pairs: [][]int{{0, 2}}, other: [][]int{{0, 1}, {1, 2}}, part: []int{0, 1, 0}, best: []int{0, 1, 0}},
		// A pair more or one less: three partitions come by one change.
		{n: 3, pairs: [][]int{{0, 1}, {1, 2}}, other: [][]int{{0, 2}}, part: []int{0, 0, 0}, best: []int{0, 0, 0}, changes: 1, threes: 1},
		// A row of four things is parted in the middle. A ring of them is as near to one block as to two blocks of two things.
		{n: 4, pairs: [][]int{{0, 1}, {1, 2}, {2, 3}}, other: [][]int{{0, 2}, {0, 3}, {1, 3}}, part: []int{0, 0, 0, 0}, best: []int{0, 0, 1, 1}, changes: 1, threes: 2},
		{n: 4, pairs: [][]int{{0, 1}, {0, 3}, {1, 2}, {2, 3}}, other: [][]int{{0, 2}, {1, 3}}, part: []int{0, 0, 0, 0}, best: []int{0, 0, 0, 0}, changes: 2, threes: 4},
		// One thing with three others: two of these come together, and the last one is left out.
		{n: 4, pairs: [][]int{{0, 1}, {0, 2}, {0, 3}}, other: [][]int{{1, 2}, {1, 3}, {2, 3}}, part: []int{0, 0, 0, 0}, best: []int{0, 0, 0, 1}, changes: 2, threes: 3},
		// Two blocks of three things that share one: it stays in the first one.
		{
			n: 5, pairs: [][]int{{0, 1}, {0, 2}, {1, 2}, {2, 3}, {2, 4}, {3, 4}}, other: [][]int{{0, 3}, {0, 4}, {1, 3}, {1, 4}},
			part: []int{0, 0, 0, 0, 0}, best: []int{0, 0, 0, 1, 1}, changes: 2, threes: 4,
		},
		{
			n: 6, pairs: [][]int{{0, 5}, {1, 4}, {2, 3}}, other: [][]int{{0, 1}, {0, 2}, {0, 3}, {0, 4}, {1, 2}, {1, 3}, {1, 5}, {2, 4}, {2, 5}, {3, 4}, {3, 5}, {4, 5}},
			part: []int{0, 1, 2, 2, 1, 0}, best: []int{0, 1, 2, 2, 1, 0},
		},
		// A ring of six things is parted into blocks of two things, in one of two ways.
		{
			n: 6, pairs: [][]int{{0, 1}, {0, 5}, {1, 2}, {2, 3}, {3, 4}, {4, 5}}, other: [][]int{{0, 2}, {0, 3}, {0, 4}, {1, 3}, {1, 4}, {1, 5}, {2, 4}, {2, 5}, {3, 5}},
			part: []int{0, 0, 0, 0, 0, 0}, best: []int{0, 0, 1, 1, 2, 2}, changes: 3, threes: 6,
		},
	}
	for _, c := range cases {
		checkPairs(t, c)
	}
}

// pairQuestions returns calls of all functions of this chapter, wrong ones among them.
func pairQuestions() []question {
	var out []question
	put := func(name string, ask func() string) {
		out = append(out, question{name, ask})
	}
	ask := func(n int, told [][]int) {
		put("PairIn", func() string { return fmt.Sprint(impl.PairIn(n, told)) })
		put("PairPart", func() string { return fmt.Sprint(impl.PairPart(n, told)) })
		put("PairWhole", func() string { return fmt.Sprint(impl.PairWhole(n, told)) })
		put("PairChanges", func() string { return fmt.Sprint(impl.PairChanges(n, told)) })
		put("PairBest", func() string { return fmt.Sprint(impl.PairBest(n, told)) })
		put("PairThree", func() string { return fmt.Sprint(impl.PairThree(n, told)) })
		put("PairOther", func() string { return fmt.Sprint(impl.PairOther(n, told)) })
	}
	somePairLists(1021, ask)
	step := 0
	wrongPairLists(func(n int, told [][]int) {
		if step++; step%97 == 0 {
			ask(n, told)
		}
	})
	for _, a := range slices.Concat(partitionsTo(5), wrongPartitions(), [][]int{inOrder(6), oneBlock(6), {0, 1, 0, 2, 1, 0}, inOrder(7), oneBlock(most)}) {
		put("PairOf", func() string { return fmt.Sprint(impl.PairOf(a)) })
	}
	return out
}

// Rule of the document: functions keep no state between calls, so that the same question has the same answer.
func TestPairsAgain(t *testing.T) {
	checkAgain(t, pairQuestions())
}

// checkPairsMemory asks all functions of pairs told, wrong ones among them.
func checkPairsMemory(t *testing.T, n int, told [][]int) {
	t.Helper()
	checkApart(t, "PairOther", told, func(g [][]int) [][]int {
		other, _ := impl.PairOther(n, g)
		return other
	})
	checkApart(t, "PairPart", told, func(g [][]int) [][]int { return one(impl.PairPart(n, g)) })
	checkApart(t, "PairBest", told, func(g [][]int) [][]int { return one(impl.PairBest(n, g)) })
	checkApart(t, "PairIn", told, func(g [][]int) [][]int { return none(impl.PairIn(n, g)) })
	checkApart(t, "PairWhole", told, func(g [][]int) [][]int { return none(impl.PairWhole(n, g)) })
	checkApart(t, "PairChanges", told, func(g [][]int) [][]int { return none(impl.PairChanges(n, g)) })
	checkApart(t, "PairThree", told, func(g [][]int) [][]int { return none(impl.PairThree(n, g)) })
}

// Rule of the document: pairs told stay as they were and where they were, and
// no result shares memory with them or with another result.
func TestPairsMemory(t *testing.T) {
	somePairLists(61, func(n int, list [][]int) { checkPairsMemory(t, n, list) })
	step := 0
	wrongPairLists(func(n int, told [][]int) {
		if step++; step%13 == 0 {
			checkPairsMemory(t, n, told)
		}
	})
}

// Rule of the document: a partition stays as it was, and its pairs share no memory with it or with each other.
func TestPairOfMemory(t *testing.T) {
	for _, a := range slices.Concat(partitionsTo(mostPaired), wrongPartitions(), [][]int{inOrder(most), oneBlock(mostPaired + 1)}) {
		checkApart(t, "PairOf", [][]int{a}, func(g [][]int) [][]int {
			pairs, _ := impl.PairOf(g[0])
			return pairs
		})
	}
}

// Rule of the document: results share no memory with those of other functions either.
func TestPairsApart(t *testing.T) {
	checkApart(t, "all functions of pairs", [][]int{{0, 1, 0, 1, 0}, {0, 1}, {0, 4}, {2, 3}}, func(g [][]int) [][]int {
		pairs, _ := impl.PairOf(g[0])
		other, _ := impl.PairOther(5, g[1:])
		back, _ := impl.PairOther(5, other)
		part, _ := impl.PairPart(5, g[1:])
		best, _ := impl.PairBest(5, g[1:])
		return slices.Concat(pairs, other, back, [][]int{part, best})
	})
}
