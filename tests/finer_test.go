package tests

import (
	"slices"
	"testing"

	"loop.example/setparts/impl"
)

// isFiner reports, for two partitions of as many things, whether all things
// that the first one has together the second one has together too: then each
// block of the first one is a part of one of the second one.
func isFiner(a []int, b []int) bool {
	for i := range a {
		for k := range i {
			if a[i] == a[k] && b[i] != b[k] {
				return false
			}
		}
	}
	return true
}

// rankOf is the document's definition of the rank.
func rankOf(a []int) int {
	return len(a) - blockTotal(a)
}

// between returns the interval from a to b, by its definition.
func between(a []int, b []int) [][]int {
	var out [][]int
	for _, c := range partitions(len(a)) {
		if isFiner(a, c) && isFiner(c, b) {
			out = append(out, c)
		}
	}
	return out
}

// fromTogether returns the partition of n things that are together as a
// function tells, which must be so for a partition.
func fromTogether(n int, together func(i int, k int) bool) []int {
	out := make([]int, n)
	next := 0
	for i := range out {
		first := 0
		for !together(first, i) {
			first++
		}
		if first < i {
			out[i] = out[first]
			continue
		}
		out[i] = next
		next++
	}
	return out
}

// meetOf returns what both have together.
func meetOf(a []int, b []int) []int {
	return fromTogether(len(a), func(i int, k int) bool { return a[i] == a[k] && b[i] == b[k] })
}

// joinOf returns the things that steps through blocks of both connect, which is
// the finest partition than which both are finer: TestFinerJoin shows this.
func joinOf(a []int, b []int) []int {
	n := len(a)
	linked := make([][]bool, n)
	for i := range linked {
		linked[i] = make([]bool, n)
		for k := range linked[i] {
			linked[i][k] = a[i] == a[k] || b[i] == b[k]
		}
	}
	for by := range n {
		for i := range n {
			for k := range n {
				linked[i][k] = linked[i][k] || linked[i][by] && linked[by][k]
			}
		}
	}
	return fromTogether(n, func(i int, k int) bool { return linked[i][k] })
}

// oneBlock returns the partition of n things that are all together.
func oneBlock(n int) []int {
	return make([]int, n)
}

// pairsOfPartitions calls for all two partitions of as many things, at most 5,
// for some of 6 and 7, and for some of ThingsMax things, among them equal ones,
// one block alone and blocks of one thing each.
func pairsOfPartitions(check func(a []int, b []int)) {
	for n := 1; n <= 5; n++ {
		for _, a := range partitions(n) {
			for _, b := range partitions(n) {
				check(a, b)
			}
		}
	}
	for n := 6; n <= most; n++ {
		all := partitions(n)
		for i, a := range all {
			check(a, a)
			for _, b := range [][]int{oneBlock(n), inOrder(n), all[(i*i+17)%len(all)], all[(i*31+5)%len(all)]} {
				check(a, b)
				check(b, a)
				check(a, meetOf(a, b))
				check(a, joinOf(a, b))
			}
		}
	}
}

// wrongPairs calls for lists that are not two partitions of as many things.
func wrongPairs(check func(a []int, b []int)) {
	for _, wrong := range wrongPartitions() {
		check(wrong, wrong)
		for _, a := range [][]int{oneBlock(max(len(wrong), 1)), inOrder(max(len(wrong), 1)), {0}, {0, 1, 0}, oneBlock(most), inOrder(most)} {
			check(wrong, a)
			check(a, wrong)
		}
	}
	for n := 1; n <= most; n++ {
		for k := 1; k <= most; k++ {
			if n == k {
				continue
			}
			for _, a := range [][]int{oneBlock(n), inOrder(n)} {
				check(a, oneBlock(k))
				check(a, inOrder(k))
			}
		}
	}
	for _, a := range partitionsTo(4) {
		check(a, append(slices.Clone(a), 0))
		check(append(slices.Clone(a), blockTotal(a)), a)
	}
}

// mustCount fails the test unless a number came with true and is as wanted.
func mustCount(t *testing.T, want int, got int, ok bool, what string, given ...any) {
	t.Helper()
	if !ok || got != want {
		t.Fatalf("%s of %v returned %d, %v: want %d and true", what, given, got, ok, want)
	}
}

// mustFailCount fails the test unless 0 came with false.
func mustFailCount(t *testing.T, got int, ok bool, what string, given ...any) {
	t.Helper()
	if ok || got != 0 {
		t.Fatalf("%s of %v returned %d, %v: want 0 and false", what, given, got, ok)
	}
}

// Promise 12.
func TestFinerIn(t *testing.T) {
	pairsOfPartitions(func(a []int, b []int) {
		is := impl.FinerIn(a, b)
		if is != isFiner(a, b) {
			t.Fatalf("FinerIn of %v and %v is %v", a, b, is)
		}
		meet, meets := impl.FinerMeet(a, b)
		join, joins := impl.FinerJoin(a, b)
		if is != (meets && slices.Equal(meet, a)) || is != (joins && slices.Equal(join, b)) {
			t.Fatalf("FinerIn of %v and %v is %v, their meet %v, their join %v", a, b, is, meet, join)
		}
		if is {
			first, _ := impl.PartSize(a)
			second, _ := impl.PartSize(b)
			if second > first {
				t.Fatalf("FinerIn holds for %v and %v, which has more blocks", a, b)
			}
		}
	})
	wrongPairs(func(a []int, b []int) {
		if impl.FinerIn(a, b) {
			t.Fatalf("FinerIn holds for %v and %v", a, b)
		}
	})
}

// Promise 13.
func TestFinerMeet(t *testing.T) {
	pairsOfPartitions(func(a []int, b []int) {
		meet, ok := impl.FinerMeet(a, b)
		mustBe(t, meetOf(a, b), meet, ok, "FinerMeet", a, b)
		if !impl.FinerIn(meet, a) || !impl.FinerIn(meet, b) {
			t.Fatalf("FinerMeet of %v and %v returned %v, which is not finer than both", a, b, meet)
		}
		back, ok := impl.FinerJoin(meet, a)
		mustBe(t, a, back, ok, "FinerJoin", meet, a)
		other, ok := impl.FinerMeet(b, a)
		mustBe(t, meet, other, ok, "FinerMeet", b, a)
	})
	wrongPairs(func(a []int, b []int) {
		got, ok := impl.FinerMeet(a, b)
		mustFail(t, got, ok, "FinerMeet", a, b)
	})
	got, ok := impl.FinerMeet([]int{0, 0, 1, 1, 2}, []int{0, 1, 1, 1, 1})
	mustBe(t, []int{0, 1, 2, 2, 3}, got, ok, "FinerMeet")
}

// Promise 15.
func TestFinerMeetRanks(t *testing.T) {
	pairsOfPartitions(func(a []int, b []int) {
		meet, _ := impl.FinerMeet(a, b)
		join, _ := impl.FinerJoin(a, b)
		sum := 0
		for _, list := range [][]int{a, b} {
			rank, ok := impl.FinerRank(list)
			if !ok {
				t.Fatalf("FinerRank of %v fails", list)
			}
			sum += rank
		}
		low, met := impl.FinerRank(meet)
		high, joined := impl.FinerRank(join)
		if !met || !joined || low+high > sum {
			t.Fatalf("the meet of %v and %v has the rank %d, the join %d: together more than %d", a, b, low, high, sum)
		}
	})
}

// Promise 14.
func TestFinerJoin(t *testing.T) {
	pairsOfPartitions(func(a []int, b []int) {
		join, ok := impl.FinerJoin(a, b)
		mustBe(t, joinOf(a, b), join, ok, "FinerJoin", a, b)
		if !impl.FinerIn(a, join) || !impl.FinerIn(b, join) {
			t.Fatalf("FinerJoin of %v and %v returned %v, than which not both are finer", a, b, join)
		}
		back, ok := impl.FinerMeet(join, a)
		mustBe(t, a, back, ok, "FinerMeet", join, a)
		other, ok := impl.FinerJoin(b, a)
		mustBe(t, join, other, ok, "FinerJoin", b, a)
	})
	wrongPairs(func(a []int, b []int) {
		got, ok := impl.FinerJoin(a, b)
		mustFail(t, got, ok, "FinerJoin", a, b)
	})
	// A chain of steps, one block after the other, connects all things, from both ends.
	got, ok := impl.FinerJoin([]int{0, 0, 1, 1, 2, 2, 3, 3}, []int{0, 1, 1, 2, 2, 3, 3, 4})
	mustBe(t, oneBlock(most), got, ok, "FinerJoin")
	got, ok = impl.FinerJoin([]int{0, 1, 2, 3, 3, 2, 1, 0}, []int{0, 1, 2, 3, 2, 1, 0, 4})
	mustBe(t, oneBlock(most), got, ok, "FinerJoin")
}

// Rule of the document: no other partition than which both are finer is finer than the join.
func TestFinerJoinFinest(t *testing.T) {
	for n := 1; n <= 5; n++ {
		all := partitions(n)
		for _, a := range all {
			for _, b := range all {
				join, _ := impl.FinerJoin(a, b)
				for _, c := range all {
					if isFiner(a, c) && isFiner(b, c) && !isFiner(join, c) {
						t.Fatalf("FinerJoin of %v and %v returned %v, but both are finer than %v", a, b, join, c)
					}
				}
			}
		}
	}
}

// Promise 16.
func TestFinerRank(t *testing.T) {
	for _, a := range partitionsTo(most) {
		rank, ok := impl.FinerRank(a)
		mustCount(t, rankOf(a), rank, ok, "FinerRank", a)
		size, _ := impl.PartSize(a)
		if rank+size != len(a) {
			t.Fatalf("FinerRank of %v returned %d, PartSize %d", a, rank, size)
		}
		merges, ok := impl.FinerMerges(a)
		if !ok || len(merges) != size*(size-1)/2 {
			t.Fatalf("FinerMerges of %v returned %d ones, %v: there are %d blocks", a, len(merges), ok, size)
		}
	}
	for _, a := range wrongPartitions() {
		got, ok := impl.FinerRank(a)
		mustFailCount(t, got, ok, "FinerRank", a)
	}
}

// Promise 17.
func TestFinerMerges(t *testing.T) {
	for _, a := range partitionsTo(most) {
		merges, ok := impl.FinerMerges(a)
		if !ok || !sameLists(merges, mergesOf(a)) {
			t.Fatalf("FinerMerges of %v returned %v, %v", a, merges, ok)
		}
		was, _ := impl.FinerRank(a)
		for _, m := range merges {
			if rank, ok := impl.FinerRank(m); !ok || rank != was+1 || !impl.FinerIn(a, m) {
				t.Fatalf("FinerMerges of %v returned %v, whose rank is %d", a, m, rank)
			}
		}
	}
	for _, a := range wrongPartitions() {
		if got, ok := impl.FinerMerges(a); ok || len(got) != 0 {
			t.Fatalf("FinerMerges of %v returned %v, %v", a, got, ok)
		}
	}
}

// mergesOf returns all merges of a partition in the order of the document.
func mergesOf(a []int) [][]int {
	var out [][]int
	for lesser := range blockTotal(a) {
		for greater := lesser + 1; greater < blockTotal(a); greater++ {
			both := []int{lesser, greater}
			out = append(out, fromTogether(len(a), func(i int, k int) bool {
				return a[i] == a[k] || slices.Contains(both, a[i]) && slices.Contains(both, a[k])
			}))
		}
	}
	return out
}

// Rule of the document: the merges stand in the order of the lesser block, then of the greater one.
func TestFinerMergesOrder(t *testing.T) {
	cases := []struct {
		a    []int
		want [][]int
	}{
		{[]int{0}, nil},
		{oneBlock(most), nil},
		{[]int{0, 1}, [][]int{{0, 0}}},
		{[]int{0, 1, 2, 3}, [][]int{{0, 0, 1, 2}, {0, 1, 0, 2}, {0, 1, 2, 0}, {0, 1, 1, 2}, {0, 1, 2, 1}, {0, 1, 2, 2}}},
		{[]int{0, 1, 0, 2, 1}, [][]int{{0, 0, 0, 1, 0}, {0, 1, 0, 0, 1}, {0, 1, 0, 1, 1}}},
	}
	for _, c := range cases {
		if got, ok := impl.FinerMerges(c.a); !ok || !sameLists(got, c.want) {
			t.Errorf("FinerMerges of %v returned %v, %v: want %v and true", c.a, got, ok, c.want)
		}
	}
}

// Rule of the document: the merges are all partitions one rank above, each once.
func TestFinerMergesAll(t *testing.T) {
	for n := 1; n <= 6; n++ {
		for _, a := range partitions(n) {
			var want [][]int
			for _, c := range partitions(n) {
				if isFiner(a, c) && rankOf(c) == rankOf(a)+1 {
					want = append(want, c)
				}
			}
			got, ok := impl.FinerMerges(a)
			slices.SortFunc(got, slices.Compare[[]int])
			if !ok || !sameLists(got, want) {
				t.Fatalf("FinerMerges of %v returned, sorted, %v, %v: want %v and true", a, got, ok, want)
			}
		}
	}
}

// Promise 18.
func TestFinerSplits(t *testing.T) {
	for n := 1; n <= 6; n++ {
		for _, a := range partitions(n) {
			want := 0
			for _, c := range partitions(n) {
				if isFiner(c, a) && rankOf(c) == rankOf(a)-1 {
					want++
				}
			}
			got, ok := impl.FinerSplits(a)
			mustCount(t, want, got, ok, "FinerSplits", a)
		}
	}
	for _, a := range partitionsTo(most) {
		got, ok := impl.FinerSplits(a)
		if !ok || (got == 0) != slices.Equal(a, inOrder(len(a))) {
			t.Fatalf("FinerSplits of %v returned %d, %v", a, got, ok)
		}
		want := 0
		for _, members := range blocksFrom(a) {
			want += 1<<(len(members)-1) - 1
		}
		mustCount(t, want, got, ok, "FinerSplits", a)
	}
	for n := 1; n <= most; n++ {
		got, ok := impl.FinerSplits(oneBlock(n))
		mustCount(t, 1<<(n-1)-1, got, ok, "FinerSplits", oneBlock(n))
	}
	for _, a := range wrongPartitions() {
		got, ok := impl.FinerSplits(a)
		mustFailCount(t, got, ok, "FinerSplits", a)
	}
}

// Promise 19.
func TestFinerInterval(t *testing.T) {
	pairsOfPartitions(func(a []int, b []int) {
		got, ok := impl.FinerInterval(a, b)
		if !isFiner(a, b) {
			mustFailCount(t, got, ok, "FinerInterval", a, b)
			return
		}
		if !ok || (got == 1) != slices.Equal(a, b) || (got == 2) != (rankOf(b) == rankOf(a)+1) {
			t.Fatalf("FinerInterval of %v and %v returned %d, %v", a, b, got, ok)
		}
		if len(a) <= 5 {
			mustCount(t, len(between(a, b)), got, ok, "FinerInterval", a, b)
		}
	})
	wrongPairs(func(a []int, b []int) {
		got, ok := impl.FinerInterval(a, b)
		mustFailCount(t, got, ok, "FinerInterval", a, b)
	})
}

// Rule of the document: the interval from blocks of one thing each to one block has all partitions.
func TestFinerIntervalWhole(t *testing.T) {
	for n := 1; n <= most; n++ {
		got, ok := impl.FinerInterval(inOrder(n), oneBlock(n))
		mustCount(t, len(partitions(n)), got, ok, "FinerInterval", n)
	}
	all := partitions(most)
	for i := 0; i < len(all); i += 97 {
		a := all[i]
		got, ok := impl.FinerInterval(a, oneBlock(most))
		mustCount(t, len(between(a, oneBlock(most))), got, ok, "FinerInterval", a)
		got, ok = impl.FinerInterval(inOrder(most), a)
		mustCount(t, len(between(inOrder(most), a)), got, ok, "FinerInterval", a)
	}
	a, b := []int{0, 1, 2, 3, 0, 4, 5, 6}, []int{0, 1, 0, 1, 0, 1, 0, 2}
	got, ok := impl.FinerInterval(a, b)
	mustCount(t, 5*5, got, ok, "FinerInterval", a, b)
}

// Promise 30.
func TestFinerSign(t *testing.T) {
	for n := 1; n <= 6; n++ {
		for _, a := range partitions(n) {
			for _, b := range partitions(n) {
				sign, ok := impl.FinerSign(a, b)
				if !isFiner(a, b) {
					mustFailCount(t, sign, ok, "FinerSign", a, b)
					continue
				}
				checkSigns(t, a, b)
				if (sign < 0) != ((rankOf(b)-rankOf(a))%2 == 1) {
					t.Fatalf("FinerSign of %v and %v returned %d", a, b, sign)
				}
			}
		}
	}
	// The document's rule for signs holds for more things too.
	for _, n := range []int{7, most} {
		all := partitions(n)
		for i := 0; i < len(all); i += 211 {
			checkSigns(t, all[i], oneBlock(n))
			checkSigns(t, inOrder(n), all[i])
			checkSigns(t, meetOf(all[i], all[(i*31+5)%len(all)]), all[i])
		}
	}
	wrongPairs(func(a []int, b []int) {
		got, ok := impl.FinerSign(a, b)
		mustFailCount(t, got, ok, "FinerSign", a, b)
	})
}

// checkSigns adds the signs of the interval from a to b.
func checkSigns(t *testing.T, a []int, b []int) {
	t.Helper()
	sum := 0
	for _, c := range between(a, b) {
		sign, ok := impl.FinerSign(a, c)
		if !ok {
			t.Fatalf("FinerSign of %v and %v fails", a, c)
		}
		sum += sign
	}
	want := 0
	if slices.Equal(a, b) {
		want = 1
	}
	if sum != want {
		t.Fatalf("the signs from %v to the partitions of the interval to %v add up to %d, want %d", a, b, sum, want)
	}
}

// Rule of the document: the sign is a product of factorials, one for each block of the second one.
func TestFinerSignProduct(t *testing.T) {
	cases := []struct {
		a, b []int
		want int
	}{
		{[]int{0}, []int{0}, 1},
		{[]int{0, 1}, []int{0, 0}, -1},
		{[]int{0, 1, 2}, []int{0, 0, 0}, 2},
		{inOrder(7), oneBlock(7), 720},
		{inOrder(most), oneBlock(most), -5040},
		{inOrder(most), inOrder(most), 1},
		{oneBlock(most), oneBlock(most), 1},
		{inOrder(most), []int{0, 0, 0, 0, 1, 1, 1, 1}, 36},
		{inOrder(most), []int{0, 1, 0, 1, 0, 1, 0, 0}, 24 * 2},
		{[]int{0, 1, 2, 3, 0, 4, 5, 6}, []int{0, 1, 0, 1, 0, 1, 0, 2}, 2 * 2},
		{[]int{0, 1, 2, 3, 4, 5, 6, 0}, []int{0, 0, 0, 0, 0, 1, 1, 0}, -24},
	}
	for _, c := range cases {
		got, ok := impl.FinerSign(c.a, c.b)
		mustCount(t, c.want, got, ok, "FinerSign", c.a, c.b)
	}
	for _, pair := range [][2][]int{{{0, 0}, {0, 1}}, {{0, 0, 1}, {0, 1, 1}}, {oneBlock(most), inOrder(most)}} {
		got, ok := impl.FinerSign(pair[0], pair[1])
		mustFailCount(t, got, ok, "FinerSign", pair)
	}
}

// Promise 20.
func TestFinerChains(t *testing.T) {
	for _, a := range partitionsTo(most) {
		got, ok := impl.FinerChains(a)
		if blockTotal(a) == 1 {
			mustCount(t, 1, got, ok, "FinerChains", a)
			continue
		}
		sum := 0
		for _, m := range mergesOf(a) {
			ways, ok := impl.FinerChains(m)
			if !ok {
				t.Fatalf("FinerChains of %v fails", m)
			}
			sum += ways
		}
		mustCount(t, sum, got, ok, "FinerChains", a)
	}
	for n, want := range []int{1: 1, 2: 1, 3: 3, 4: 18, 5: 180, 6: 2700, 7: 56700, 8: 1587600} {
		if n > 0 {
			got, ok := impl.FinerChains(inOrder(n))
			mustCount(t, want, got, ok, "FinerChains", inOrder(n))
		}
	}
	for _, a := range wrongPartitions() {
		got, ok := impl.FinerChains(a)
		mustFailCount(t, got, ok, "FinerChains", a)
	}
}

// Rule of the document: arguments stay as they were, and results share no memory.
func TestFinerMemory(t *testing.T) {
	given := slices.Concat(partitionsTo(4), wrongPartitions(), [][]int{{0, 1, 0, 2, 1, 3, 0, 2}, inOrder(most), oneBlock(most)})
	for _, a := range given {
		alone := [][]int{a}
		checkApart(t, "FinerRank", alone, func(g [][]int) [][]int { return none(impl.FinerRank(g[0])) })
		checkApart(t, "FinerSplits", alone, func(g [][]int) [][]int { return none(impl.FinerSplits(g[0])) })
		checkApart(t, "FinerChains", alone, func(g [][]int) [][]int { return none(impl.FinerChains(g[0])) })
		checkApart(t, "FinerMerges", alone, func(g [][]int) [][]int {
			merges, _ := impl.FinerMerges(g[0])
			return merges
		})
		for _, b := range given {
			checkPairMemory(t, [][]int{a, b})
		}
		// One list may also stand for both.
		checkApart(t, "FinerMeet", alone, func(g [][]int) [][]int { return one(impl.FinerMeet(g[0], g[0])) })
		checkApart(t, "FinerJoin", alone, func(g [][]int) [][]int { return one(impl.FinerJoin(g[0], g[0])) })
	}
}

// checkPairMemory asks each function of two lists.
func checkPairMemory(t *testing.T, given [][]int) {
	t.Helper()
	checkApart(t, "FinerIn", given, func(g [][]int) [][]int { return none(impl.FinerIn(g[0], g[1])) })
	checkApart(t, "FinerInterval", given, func(g [][]int) [][]int { return none(impl.FinerInterval(g[0], g[1])) })
	checkApart(t, "FinerSign", given, func(g [][]int) [][]int { return none(impl.FinerSign(g[0], g[1])) })
	checkApart(t, "FinerMeet", given, func(g [][]int) [][]int { return one(impl.FinerMeet(g[0], g[1])) })
	checkApart(t, "FinerJoin", given, func(g [][]int) [][]int { return one(impl.FinerJoin(g[0], g[1])) })
}
