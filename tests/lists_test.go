package tests

import (
	"fmt"
	"math"
	"slices"
	"testing"

	"loop.example/setparts/impl"
)

// The greatest number of things whose partitions are asked for all at once,
// and of blocks of these, written out as in most.
const mostListed = 7

// bell has the number of partitions of each number of things, written out.
var bell = []int{1, 1, 2, 5, 15, 52, 203, 877, 4140}

// wrongThings returns numbers below and above those from 1 to the greatest one.
func wrongThings(greatest int) []int {
	return append([]int{0, greatest + 1, greatest + 2, 64, 264, 1<<32 + greatest}, farNumbers...)
}

// wrongPlaces returns numbers below and above all places of partitions of n things.
func wrongPlaces(n int) []int {
	places := []int{-1, -2, bell[n], bell[n] + 1, 2 * bell[n], -bell[n], 1 << 16, 1<<32 + bell[n] - 1, 1 << 62, math.MinInt + bell[n]}
	for _, far := range farNumbers {
		if far < 0 || far >= bell[n] {
			places = append(places, far)
		}
	}
	return places
}

// mustLists fails the test unless lists came with true and are as wanted.
func mustLists(t *testing.T, want [][]int, got [][]int, ok bool, what string, given ...any) {
	t.Helper()
	if !ok || !sameLists(got, want) {
		t.Fatalf("%s of %v returned %v, %v: want %v and true", what, given, got, ok, want)
	}
}

// mustFailLists fails the test unless no list came, with false.
func mustFailLists(t *testing.T, got [][]int, ok bool, what string, given ...any) {
	t.Helper()
	if ok || len(got) != 0 {
		t.Fatalf("%s of %v returned %v, %v: want no list and false", what, given, got, ok)
	}
}

// The other tests of this chapter take the order of the document from the
// lists of the helper: they must be in it, each one once, and none missing.
func TestPartitionsInOrder(t *testing.T) {
	for n := 1; n <= most; n++ {
		all := partitions(n)
		for i, a := range all {
			if !isPartition(a) || i > 0 && slices.Compare(all[i-1], a) >= 0 {
				t.Fatalf("%v stands at the place %d", a, i)
			}
		}
		if len(all) != bell[n] || !slices.Equal(all[0], oneBlock(n)) || !slices.Equal(all[len(all)-1], inOrder(n)) {
			t.Fatalf("%d lists of %d things, from %v to %v", len(all), n, all[0], all[len(all)-1])
		}
	}
}

// Promise 31.
func TestListAll(t *testing.T) {
	for n := 1; n <= mostListed; n++ {
		got, ok := impl.ListAll(n)
		mustLists(t, partitions(n), got, ok, "ListAll", n)
		count, ok := impl.NumberAll(n)
		mustCount(t, len(got), count, ok, "NumberAll", n)
		for i, a := range got {
			if !impl.PartIn(a) {
				t.Fatalf("ListAll of %d has %v, which is no partition", n, a)
			}
			place, ok := impl.ListPlace(a)
			mustCount(t, i, place, ok, "ListPlace", a)
		}
	}
	for _, n := range wrongThings(mostListed) {
		got, ok := impl.ListAll(n)
		mustFailLists(t, got, ok, "ListAll", n)
	}
}

// Rule of the document: the lists ascend number by number.
func TestListAllWritten(t *testing.T) {
	cases := [][][]int{
		{{0}},
		{{0, 0}, {0, 1}},
		{{0, 0, 0}, {0, 0, 1}, {0, 1, 0}, {0, 1, 1}, {0, 1, 2}},
		{
			{0, 0, 0, 0}, {0, 0, 0, 1}, {0, 0, 1, 0}, {0, 0, 1, 1}, {0, 0, 1, 2},
			{0, 1, 0, 0}, {0, 1, 0, 1}, {0, 1, 0, 2}, {0, 1, 1, 0}, {0, 1, 1, 1}, {0, 1, 1, 2},
			{0, 1, 2, 0}, {0, 1, 2, 1}, {0, 1, 2, 2}, {0, 1, 2, 3},
		},
	}
	for i, want := range cases {
		got, ok := impl.ListAll(i + 1)
		mustLists(t, want, got, ok, "ListAll", i+1)
	}
}

// Promise 32.
func TestListPlace(t *testing.T) {
	for n := 1; n <= most; n++ {
		for i, a := range partitions(n) {
			place, ok := impl.ListPlace(a)
			mustCount(t, i, place, ok, "ListPlace", a)
			at, ok := impl.ListAt(n, place)
			mustBe(t, a, at, ok, "ListAt", n, place)
		}
	}
	for _, a := range append(wrongPartitions(), partitions(most+1)...) {
		got, ok := impl.ListPlace(a)
		mustFailCount(t, got, ok, "ListPlace", a)
	}
}

// Promise 33.
func TestListAt(t *testing.T) {
	for n := 1; n <= most; n++ {
		all := partitions(n)
		for i := range bell[n] {
			a, ok := impl.ListAt(n, i)
			mustBe(t, all[i], a, ok, "ListAt", n, i)
			place, ok := impl.ListPlace(a)
			mustCount(t, i, place, ok, "ListPlace", a)
		}
		for _, place := range wrongPlaces(n) {
			got, ok := impl.ListAt(n, place)
			mustFail(t, got, ok, "ListAt", n, place)
		}
	}
	for _, n := range wrongThings(most) {
		for _, place := range append([]int{0, 1, 4139, 4140, 21146}, farNumbers...) {
			got, ok := impl.ListAt(n, place)
			mustFail(t, got, ok, "ListAt", n, place)
		}
	}
}

// Rule of the document: places count from 0 on, up to the one of the last partition.
func TestListPlaceWritten(t *testing.T) {
	cases := []struct {
		a     []int
		place int
	}{
		{[]int{0}, 0},
		{[]int{0, 1}, 1},
		{[]int{0, 1, 0}, 2},
		{[]int{0, 1, 0, 2}, 7},
		{oneBlock(mostListed), 0},
		{inOrder(mostListed), 876},
		{oneBlock(most), 0},
		{[]int{0, 0, 0, 0, 0, 0, 0, 1}, 1},
		{[]int{0, 1, 0, 0, 0, 0, 0, 0}, 877},
		{[]int{0, 1, 2, 3, 4, 5, 6, 0}, 4132},
		{inOrder(most), 4139},
	}
	for _, c := range cases {
		place, ok := impl.ListPlace(c.a)
		mustCount(t, c.place, place, ok, "ListPlace", c.a)
		a, ok := impl.ListAt(len(c.a), c.place)
		mustBe(t, c.a, a, ok, "ListAt", len(c.a), c.place)
	}
}

// Promise 34.
func TestListNext(t *testing.T) {
	for n := 1; n <= most; n++ {
		all := partitions(n)
		for i, a := range all[:len(all)-1] {
			next, ok := impl.ListNext(a)
			mustBe(t, all[i+1], next, ok, "ListNext", a)
			if slices.Compare(next, a) <= 0 {
				t.Fatalf("ListNext of %v returned %v, which is not greater", a, next)
			}
			back, ok := impl.ListBefore(next)
			mustBe(t, a, back, ok, "ListBefore", next)
		}
		got, ok := impl.ListNext(inOrder(n))
		mustFail(t, got, ok, "ListNext", inOrder(n))
	}
	for _, a := range append(wrongPartitions(), partitions(most+1)...) {
		got, ok := impl.ListNext(a)
		mustFail(t, got, ok, "ListNext", a)
	}
}

// Promise 35.
func TestListBefore(t *testing.T) {
	for n := 1; n <= most; n++ {
		all := partitions(n)
		for i, a := range all[1:] {
			before, ok := impl.ListBefore(a)
			mustBe(t, all[i], before, ok, "ListBefore", a)
			back, ok := impl.ListNext(before)
			mustBe(t, a, back, ok, "ListNext", before)
		}
		got, ok := impl.ListBefore(oneBlock(n))
		mustFail(t, got, ok, "ListBefore", oneBlock(n))
	}
	for _, a := range append(wrongPartitions(), partitions(most+1)...) {
		got, ok := impl.ListBefore(a)
		mustFail(t, got, ok, "ListBefore", a)
	}
}

// Promise 36.
func TestListBlocks(t *testing.T) {
	for n := 1; n <= mostListed; n++ {
		for k := 1; k <= mostListed; k++ {
			var want [][]int
			for _, a := range partitions(n) {
				if blockTotal(a) == k {
					want = append(want, a)
				}
			}
			got, ok := impl.ListBlocks(n, k)
			mustLists(t, want, got, ok, "ListBlocks", n, k)
			count, ok := impl.NumberBlocks(n, k)
			mustCount(t, len(got), count, ok, "NumberBlocks", n, k)
			for _, a := range got {
				size, ok := impl.PartSize(a)
				mustCount(t, k, size, ok, "PartSize", a)
			}
		}
	}
	wrong := wrongThings(mostListed)
	for _, out := range wrong {
		for in := 1; in <= mostListed; in++ {
			got, ok := impl.ListBlocks(out, in)
			mustFailLists(t, got, ok, "ListBlocks", out, in)
			got, ok = impl.ListBlocks(in, out)
			mustFailLists(t, got, ok, "ListBlocks", in, out)
		}
		for _, other := range wrong {
			got, ok := impl.ListBlocks(out, other)
			mustFailLists(t, got, ok, "ListBlocks", out, other)
		}
	}
}

// Rule of the document: one block and as many blocks as things have one
// partition each, and more blocks than things none, which is not a failure.
func TestListBlocksWritten(t *testing.T) {
	for n := 1; n <= mostListed; n++ {
		got, ok := impl.ListBlocks(n, 1)
		mustLists(t, [][]int{oneBlock(n)}, got, ok, "ListBlocks", n, 1)
		got, ok = impl.ListBlocks(n, n)
		mustLists(t, [][]int{inOrder(n)}, got, ok, "ListBlocks", n, n)
		for k := n + 1; k <= mostListed; k++ {
			got, ok = impl.ListBlocks(n, k)
			mustLists(t, nil, got, ok, "ListBlocks", n, k)
		}
	}
	got, ok := impl.ListBlocks(4, 3)
	want := [][]int{{0, 0, 1, 2}, {0, 1, 0, 2}, {0, 1, 1, 2}, {0, 1, 2, 0}, {0, 1, 2, 1}, {0, 1, 2, 2}}
	mustLists(t, want, got, ok, "ListBlocks", 4, 3)
}

// openCount counts the partitions of n things that begin with a list.
func openCount(n int, a []int) int {
	count := 0
	for _, b := range partitions(n) {
		if slices.Equal(b[:len(a)], a) {
			count++
		}
	}
	return count
}

// Promise 37.
func TestListOpen(t *testing.T) {
	for n := 1; n <= most; n++ {
		for _, a := range partitionsTo(n) {
			got, ok := impl.ListOpen(n, a)
			if len(a) == n {
				mustCount(t, 1, got, ok, "ListOpen", n, a)
				continue
			}
			sum := 0
			for k := 0; k <= blockTotal(a); k++ {
				longer, put := impl.PartPut(a, k)
				count, fine := impl.ListOpen(n, longer)
				if !put || !fine {
					t.Fatalf("ListOpen of %d and %v, or PartPut of %v and %d, fails", n, longer, a, k)
				}
				sum += count
			}
			mustCount(t, sum, got, ok, "ListOpen", n, a)
		}
	}
}

// Rule of the document: it counts the partitions that begin with the list.
func TestListOpenCounted(t *testing.T) {
	for n := 1; n <= 6; n++ {
		for _, a := range partitionsTo(n) {
			got, ok := impl.ListOpen(n, a)
			mustCount(t, openCount(n, a), got, ok, "ListOpen", n, a)
		}
	}
	for _, a := range partitionsTo(4) {
		got, ok := impl.ListOpen(most, a)
		mustCount(t, openCount(most, a), got, ok, "ListOpen", most, a)
	}
	cases := []struct {
		n    int
		a    []int
		want int
	}{
		{1, []int{0}, 1}, {4, []int{0}, 15}, {4, []int{0, 1}, 10}, {4, []int{0, 0}, 5}, {4, []int{0, 1, 2}, 4},
		{mostListed, []int{0}, 877}, {most, []int{0}, 4140}, {most, []int{0, 0}, 877}, {most, []int{0, 1}, 3263},
		{most, oneBlock(7), 2}, {most, inOrder(7), 8}, {most, oneBlock(most), 1}, {most, inOrder(most), 1},
	}
	for _, c := range cases {
		got, ok := impl.ListOpen(c.n, c.a)
		mustCount(t, c.want, got, ok, "ListOpen", c.n, c.a)
	}
}

// Rule of the document: the beginning is a partition, of which the empty list
// is none, of at most n things.
func TestListOpenFails(t *testing.T) {
	for n := 1; n <= most; n++ {
		for _, a := range append(wrongPartitions(), partitions(most+1)...) {
			got, ok := impl.ListOpen(n, a)
			mustFailCount(t, got, ok, "ListOpen", n, a)
		}
		for longer := n + 1; longer <= most; longer++ {
			for _, a := range partitions(longer) {
				got, ok := impl.ListOpen(n, a)
				mustFailCount(t, got, ok, "ListOpen", n, a)
			}
		}
		for _, a := range [][]int{nil, {}} {
			got, ok := impl.ListOpen(n, a)
			mustFailCount(t, got, ok, "ListOpen", n, a)
		}
	}
	for _, n := range wrongThings(most) {
		for _, a := range [][]int{nil, {0}, {0, 1, 0}, oneBlock(most), inOrder(most), inOrder(most + 1), {1}} {
			got, ok := impl.ListOpen(n, a)
			mustFailCount(t, got, ok, "ListOpen", n, a)
		}
	}
}

// Rule of the document: one thing alone has one partition, the first and the last one.
func TestListOneThing(t *testing.T) {
	alone := []int{0}
	all, ok := impl.ListAll(1)
	mustLists(t, [][]int{alone}, all, ok, "ListAll", 1)
	place, ok := impl.ListPlace(alone)
	mustCount(t, 0, place, ok, "ListPlace", alone)
	at, ok := impl.ListAt(1, 0)
	mustBe(t, alone, at, ok, "ListAt", 1, 0)
	at, ok = impl.ListAt(1, 1)
	mustFail(t, at, ok, "ListAt", 1, 1)
	next, ok := impl.ListNext(alone)
	mustFail(t, next, ok, "ListNext", alone)
	before, ok := impl.ListBefore(alone)
	mustFail(t, before, ok, "ListBefore", alone)
	with, ok := impl.ListBlocks(1, 1)
	mustLists(t, [][]int{alone}, with, ok, "ListBlocks", 1, 1)
	open, ok := impl.ListOpen(1, alone)
	mustCount(t, 1, open, ok, "ListOpen", 1, alone)
}

// listQuestions returns calls of all functions of this chapter, and of
// FinerSign, wrong ones among them.
func listQuestions() []question {
	var out []question
	put := func(name string, ask func() string) {
		out = append(out, question{name, ask})
	}
	given := slices.Concat(partitionsTo(5), wrongPartitions(), [][]int{{0, 1, 0, 2, 1, 3, 0, 2}, inOrder(most), oneBlock(most)})
	for n := -1; n <= most+1; n++ {
		put("ListAll", func() string { return fmt.Sprint(impl.ListAll(n)) })
		for k := -1; k <= most; k++ {
			put("ListBlocks", func() string { return fmt.Sprint(impl.ListBlocks(n, k)) })
		}
		for _, place := range []int{-1, 0, 1, 2, 4, 5, 14, 15, 100, 202, 876, 877, 4139, 4140} {
			put("ListAt", func() string { return fmt.Sprint(impl.ListAt(n, place)) })
		}
		for _, a := range given {
			put("ListOpen", func() string { return fmt.Sprint(impl.ListOpen(n, a)) })
		}
	}
	for _, a := range given {
		put("ListPlace", func() string { return fmt.Sprint(impl.ListPlace(a)) })
		put("ListNext", func() string { return fmt.Sprint(impl.ListNext(a)) })
		put("ListBefore", func() string { return fmt.Sprint(impl.ListBefore(a)) })
		for _, b := range [][]int{oneBlock(3), inOrder(4), oneBlock(5), oneBlock(most), a} {
			put("FinerSign", func() string { return fmt.Sprint(impl.FinerSign(a, b)) })
		}
	}
	return out
}

// Rule of the document: functions keep no state between calls, so that the same question has the same answer.
func TestListsAgain(t *testing.T) {
	checkAgain(t, listQuestions())
}

// Rule of the document: arguments stay as they were, and results share no memory.
func TestListsMemory(t *testing.T) {
	for n := -1; n <= most+1; n++ {
		checkApart(t, "ListAll", nil, func([][]int) [][]int {
			all, _ := impl.ListAll(n)
			return all
		})
		for k := -1; k <= most; k++ {
			checkApart(t, "ListBlocks", nil, func([][]int) [][]int {
				all, _ := impl.ListBlocks(n, k)
				return all
			})
		}
		for _, place := range []int{-1, 0, 1, 4, 876, 4139, 4140} {
			checkApart(t, "ListAt", nil, func([][]int) [][]int { return one(impl.ListAt(n, place)) })
		}
	}
	for _, a := range append(partitionsTo(most), wrongPartitions()...) {
		alone := [][]int{a}
		checkApart(t, "ListPlace", alone, func(g [][]int) [][]int { return none(impl.ListPlace(g[0])) })
		checkApart(t, "ListNext", alone, func(g [][]int) [][]int { return one(impl.ListNext(g[0])) })
		checkApart(t, "ListBefore", alone, func(g [][]int) [][]int { return one(impl.ListBefore(g[0])) })
		for _, n := range []int{0, 4, most} {
			checkApart(t, "ListOpen", alone, func(g [][]int) [][]int { return none(impl.ListOpen(n, g[0])) })
		}
	}
}

// Rule of the document: results share no memory with those of other functions either.
func TestListsApart(t *testing.T) {
	checkApart(t, "all functions of lists", [][]int{{0, 1, 0, 2}}, func(g [][]int) [][]int {
		all, _ := impl.ListAll(4)
		with, _ := impl.ListBlocks(4, 3)
		at, _ := impl.ListAt(4, 7)
		next, _ := impl.ListNext(g[0])
		before, _ := impl.ListBefore(g[0])
		return slices.Concat(all, with, [][]int{at, next, before})
	})
}
