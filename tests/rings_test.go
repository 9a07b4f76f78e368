package tests

import (
	"fmt"
	"math"
	"slices"
	"testing"

	"loop.example/setparts/impl"
)

// isPermutation is the document's definition: different numbers from 0 to n - 1.
func isPermutation(p []int) bool {
	if len(p) < 1 || len(p) > most {
		return false
	}
	for number := range p {
		if !slices.Contains(p, number) {
			return false
		}
	}
	return true
}

// namingsTo returns all permutations of 1 to n things.
func namingsTo(n int) [][]int {
	var out [][]int
	for things := 1; things <= n; things++ {
		out = append(out, namings(things)...)
	}
	return out
}

// ringsFrom returns the partition of the things that come round to each other.
func ringsFrom(p []int) []int {
	return fromTogether(len(p), func(i int, k int) bool {
		for range p {
			if i == k {
				return true
			}
			i = p[i]
		}
		return false
	})
}

// ringsOf returns the permutation of a partition, made from its definition: the
// next greater thing of the block or, if there is none, the least one.
func ringsOf(a []int) []int {
	out := make([]int, len(a))
	for i := range a {
		out[i] = slices.Index(a, a[i])
		for k := len(a) - 1; k > i; k-- {
			if a[k] == a[i] {
				out[i] = k
			}
		}
	}
	return out
}

// greatRing returns the permutation that leads each of n things to the next
// one, the last one to the first one.
func greatRing(n int) []int {
	out := make([]int, n)
	for i := range n - 1 {
		out[i] = i + 1
	}
	return out
}

// backwards returns n things from the last one to the first one.
func backwards(n int) []int {
	out := inOrder(n)
	slices.Reverse(out)
	return out
}

// timesOf leads as the first one and then as the second one.
func timesOf(p []int, q []int) []int {
	var out []int
	for _, led := range p {
		out = append(out, q[led])
	}
	return out
}

// backOf returns at each place the thing that is led to it.
func backOf(p []int) []int {
	var out []int
	for i := range p {
		out = append(out, slices.Index(p, i))
	}
	return out
}

// isEvenByPairs reports whether as many pairs as an even number stand with the
// greater number first, which is another way to tell even permutations.
func isEvenByPairs(p []int) bool {
	even := true
	for i := range p {
		for _, behind := range p[i:] {
			if behind < p[i] {
				even = !even
			}
		}
	}
	return even
}

// swapOf returns the list with the numbers at two places exchanged.
func swapOf(p []int, i int, k int) []int {
	out := slices.Clone(p)
	out[i], out[k] = p[k], p[i]
	return out
}

// wrongPermutations returns lists that are no permutations.
func wrongPermutations() [][]int {
	wrong := [][]int{
		nil, {}, {1}, {-1}, {0, 0}, {1, 1}, {1, 2}, {0, 2}, {2, 1}, {-1, 0}, {0, -1}, {0, 1, 1}, {0, 0, 1}, {1, 2, 3}, {2, 0, 2},
		{1, 2, 3, 4, 5, 6, 7, 8}, {0, 1, 2, 3, 4, 5, 6, 6}, {8, 1, 2, 3, 4, 5, 6, 7}, {-1, 0, 1, 2, 3, 4, 5, 6},
		inOrder(most + 1), greatRing(most + 1), backwards(most + 1), inOrder(64), greatRing(65), inOrder(300), make([]int, 300),
	}
	for n := 1; n <= most; n++ {
		for _, p := range [][]int{inOrder(n), greatRing(n), backwards(n)} {
			for i := range p {
				for _, number := range append([]int{-1, n, n + 1, p[(i+1)%n], p[(i+n-1)%n], most, most + 1, 64}, farNumbers...) {
					if number != p[i] {
						wrong = append(wrong, slices.Replace(slices.Clone(p), i, i+1, number))
					}
				}
			}
		}
	}
	return wrong
}

// pairsOfPermutations calls for all two permutations of as many things, at most
// 4, and for all of 5 to ThingsMax things with chosen ones.
func pairsOfPermutations(check func(p []int, q []int)) {
	for n := 1; n <= most; n++ {
		all := namings(n)
		for i, p := range all {
			others := [][]int{inOrder(n), greatRing(n), backOf(p), p, all[(i*i+17)%len(all)], all[(i*31+5)%len(all)]}
			if n <= 4 {
				others = all
			}
			for _, q := range others {
				check(p, q)
			}
		}
	}
}

// Promise 46.
func TestRingIn(t *testing.T) {
	for n := range 5 {
		for _, p := range lists(n, -1, n) {
			if got := impl.RingIn(p); got != isPermutation(p) {
				t.Fatalf("RingIn of %v is %v", p, got)
			}
		}
	}
	for _, p := range namingsTo(most) {
		if !impl.RingIn(p) {
			t.Fatalf("RingIn does not hold for %v", p)
		}
		rings, ok := impl.RingPart(p)
		mustBe(t, ringsFrom(p), rings, ok, "RingPart", p)
		for i, led := range p {
			if !impl.PartTogether(rings, i, led) {
				t.Fatalf("RingPart of %v returned %v: %d is led to %d", p, rings, i, led)
			}
		}
	}
	for _, p := range wrongPermutations() {
		if impl.RingIn(p) {
			t.Fatalf("RingIn holds for %v", p)
		}
	}
}

// Promise 47.
func TestRingPart(t *testing.T) {
	for _, p := range namingsTo(most) {
		rings, ok := impl.RingPart(p)
		mustBe(t, ringsFrom(p), rings, ok, "RingPart", p)
		back, _ := impl.RingBack(p)
		other, ok := impl.RingPart(back)
		mustBe(t, rings, other, ok, "RingPart", back)
	}
	for _, p := range wrongPermutations() {
		got, ok := impl.RingPart(p)
		mustFail(t, got, ok, "RingPart", p)
	}
}

// Promise 48.
func TestRingOf(t *testing.T) {
	for _, a := range partitionsTo(most) {
		p, ok := impl.RingOf(a)
		mustBe(t, ringsOf(a), p, ok, "RingOf", a)
		if !impl.RingIn(p) {
			t.Fatalf("RingOf of %v returned %v, which is no permutation", a, p)
		}
		back, ok := impl.RingPart(p)
		mustBe(t, a, back, ok, "RingPart", p)
	}
	for _, a := range append(wrongPartitions(), partitions(most+1)...) {
		got, ok := impl.RingOf(a)
		mustFail(t, got, ok, "RingOf", a)
	}
}

// Promise 49: no partition parts the great ring into more rings either, and as many
// part it into so many as have no arcs that cross.
func TestRingOfWithoutCrossing(t *testing.T) {
	for n := 1; n <= most; n++ {
		plain := 0
		for _, a := range partitions(n) {
			p, _ := impl.RingOf(a)
			back, _ := impl.RingBack(p)
			both, _ := impl.RingTimes(back, greatRing(n))
			rings, _ := impl.RingPart(both)
			size, ok := impl.PartSize(rings)
			if !ok || size > rankOf(a)+1 {
				t.Fatalf("%v leads, parting the great ring, to %v: %d rings, %v", a, both, size, ok)
			}
			cross, _ := impl.ArcCross(a)
			if (size == rankOf(a)+1) != (cross == 0) {
				t.Fatalf("%v has the rank %d and %d pairs that cross, but leads to %v with %d rings", a, rankOf(a), cross, both, size)
			}
			if cross == 0 {
				plain++
			}
		}
		if (n+1)*plain != choices(2*n, n) {
			t.Fatalf("%d partitions of %d things have no arcs that cross", plain, n)
		}
	}
}

// Promise 50.
func TestRingCount(t *testing.T) {
	for n := 1; n <= 6; n++ {
		sums := make([]int, n+1)
		for _, a := range partitions(n) {
			count, ok := impl.RingCount(a)
			if !ok {
				t.Fatalf("RingCount of %v fails", a)
			}
			sums[blockTotal(a)] += count
		}
		for k, sum := range sums {
			got, ok := impl.NumberRings(n, k)
			mustCount(t, sum, got, ok, "NumberRings", n, k)
		}
	}
	for _, a := range append(wrongPartitions(), partitions(most+1)...) {
		got, ok := impl.RingCount(a)
		mustFailCount(t, got, ok, "RingCount", a)
	}
}

// Rule of the document: RingCount counts the permutations with the rings told,
// and is the product told.
func TestRingCountCounted(t *testing.T) {
	counts := map[string]int{}
	for _, p := range namingsTo(most) {
		counts[fmt.Sprint(ringsFrom(p))]++
	}
	for _, a := range partitionsTo(most) {
		product := 1
		for _, b := range blocksFrom(a) {
			product *= factorial(len(b) - 1)
		}
		got, ok := impl.RingCount(a)
		mustCount(t, counts[fmt.Sprint(a)], got, ok, "RingCount", a)
		mustCount(t, product, got, ok, "RingCount", a)
	}
}

// Promise 51.
func TestRingTimes(t *testing.T) {
	pairsOfPermutations(func(p []int, q []int) {
		both, ok := impl.RingTimes(p, q)
		mustBe(t, timesOf(p, q), both, ok, "RingTimes", p, q)
		if impl.RingEven(both) != (impl.RingEven(p) == impl.RingEven(q)) {
			t.Fatalf("RingTimes of %v and %v returned %v, even: %v, %v and %v", p, q, both, impl.RingEven(p), impl.RingEven(q), impl.RingEven(both))
		}
	})
	for _, wrong := range wrongPermutations() {
		n := min(max(len(wrong), 1), most)
		for _, p := range [][]int{wrong, {0}, inOrder(n), greatRing(n), backwards(n), greatRing(most)} {
			got, ok := impl.RingTimes(p, wrong)
			mustFail(t, got, ok, "RingTimes", p, wrong)
			got, ok = impl.RingTimes(wrong, p)
			mustFail(t, got, ok, "RingTimes", wrong, p)
		}
	}
}

// Rule of the document: both have as many things.
func TestRingTimesNotAsMany(t *testing.T) {
	for n := 1; n <= most; n++ {
		for k := 1; k <= most; k++ {
			if n == k {
				continue
			}
			for _, p := range [][]int{inOrder(n), greatRing(n), backwards(n)} {
				for _, q := range [][]int{inOrder(k), greatRing(k), backwards(k)} {
					got, ok := impl.RingTimes(p, q)
					mustFail(t, got, ok, "RingTimes", p, q)
				}
			}
		}
	}
}

// Promise 52.
func TestRingBack(t *testing.T) {
	for _, p := range namingsTo(most) {
		back, ok := impl.RingBack(p)
		mustBe(t, backOf(p), back, ok, "RingBack", p)
		again, ok := impl.RingBack(back)
		mustBe(t, p, again, ok, "RingBack", back)
		both, ok := impl.RingTimes(p, back)
		mustBe(t, inOrder(len(p)), both, ok, "RingTimes", p, back)
		both, ok = impl.RingTimes(back, p)
		mustBe(t, inOrder(len(p)), both, ok, "RingTimes", back, p)
	}
	for _, p := range wrongPermutations() {
		got, ok := impl.RingBack(p)
		mustFail(t, got, ok, "RingBack", p)
	}
}

// Promise 53.
func TestRingEven(t *testing.T) {
	for _, p := range namingsTo(most) {
		even := impl.RingEven(p)
		if even != isEvenByPairs(p) || even != (rankOf(ringsFrom(p))%2 == 0) {
			t.Fatalf("RingEven of %v is %v", p, even)
		}
		if back, _ := impl.RingBack(p); impl.RingEven(back) != even {
			t.Fatalf("RingEven of %v is %v, but of %v, which leads back, it is not", p, even, back)
		}
		if len(p) == 1 {
			continue
		}
		if other, ok := impl.RingSwap(p, 0, 1); !ok || impl.RingEven(other) == even {
			t.Fatalf("RingEven of %v is %v, and of %v too", p, even, other)
		}
	}
	for _, p := range wrongPermutations() {
		if impl.RingEven(p) {
			t.Fatalf("RingEven holds for %v", p)
		}
	}
}

// checkSwap exchanges two places of a permutation, there and back.
func checkSwap(t *testing.T, p []int, i int, k int) {
	t.Helper()
	other, ok := impl.RingSwap(p, i, k)
	mustBe(t, swapOf(p, i, k), other, ok, "RingSwap", p, i, k)
	turned, ok := impl.RingSwap(p, k, i)
	mustBe(t, other, turned, ok, "RingSwap", p, k, i)
	back, ok := impl.RingSwap(other, i, k)
	mustBe(t, p, back, ok, "RingSwap", other, i, k)
	finer, _ := impl.RingPart(p)
	coarser, _ := impl.RingPart(other)
	if impl.PartTogether(finer, i, k) {
		// Both are in one ring, which is split.
		finer, coarser = coarser, finer
	}
	low, known := impl.FinerRank(finer)
	high, ok := impl.FinerRank(coarser)
	if !known || !ok || high != low+1 || !impl.FinerIn(finer, coarser) {
		t.Fatalf("RingSwap of %v, %d and %d returned %v, but %v is no merge of %v", p, i, k, other, coarser, finer)
	}
	merges, _ := impl.FinerMerges(finer)
	if !slices.ContainsFunc(merges, func(m []int) bool { return slices.Equal(m, coarser) }) {
		t.Fatalf("RingSwap of %v, %d and %d returned %v, but %v is none of the merges %v", p, i, k, other, coarser, merges)
	}
}

// Promise 54: all places up to 6 things; beyond, all places of some
// permutations and one pair of each.
func TestRingSwap(t *testing.T) {
	for n := 2; n <= most; n++ {
		places := twoThings(n)
		for i, p := range namings(n) {
			asked := places
			if n > 6 && i%37 != 0 {
				asked = [][]int{places[i%len(places)]}
			}
			for _, pair := range asked {
				checkSwap(t, p, pair[0], pair[1])
			}
		}
	}
}

// Rule of the document: both places are different ones of the permutation.
func TestRingSwapFails(t *testing.T) {
	for n := 1; n <= most; n++ {
		for _, p := range [][]int{inOrder(n), greatRing(n), backwards(n)} {
			for i := range n {
				got, ok := impl.RingSwap(p, i, i)
				mustFail(t, got, ok, "RingSwap", p, i, i)
				for _, wrong := range append([]int{-1, -2, -n, n, n + 1, 2 * n, most, most + 1, n + 256, -1 << 62}, farNumbers...) {
					if wrong >= 0 && wrong < n {
						continue
					}
					for _, pair := range [][2]int{{i, wrong}, {wrong, i}, {wrong, wrong}, {wrong, n}, {-1, wrong}} {
						got, ok := impl.RingSwap(p, pair[0], pair[1])
						mustFail(t, got, ok, "RingSwap", p, pair)
					}
				}
			}
		}
	}
	for _, p := range wrongPermutations() {
		for _, pair := range [][2]int{{0, 1}, {1, 0}, {0, 0}, {0, len(p) - 1}, {len(p) - 1, 0}, {0, len(p)}, {-1, 0}, {0, math.MaxInt}} {
			got, ok := impl.RingSwap(p, pair[0], pair[1])
			mustFail(t, got, ok, "RingSwap", p, pair)
		}
	}
}

// ringCase is a permutation with all that this chapter makes of it.
type ringCase struct {
	p, rings, back []int
	even           bool
	alike          int
}

// checkRings asks all functions of one permutation.
func checkRings(t *testing.T, c ringCase) {
	t.Helper()
	rings, ok := impl.RingPart(c.p)
	mustBe(t, c.rings, rings, ok, "RingPart", c.p)
	back, ok := impl.RingBack(c.p)
	mustBe(t, c.back, back, ok, "RingBack", c.p)
	count, ok := impl.RingCount(c.rings)
	mustCount(t, c.alike, count, ok, "RingCount", c.rings)
	for _, p := range [][]int{c.p, c.back} {
		if !impl.RingIn(p) || impl.RingEven(p) != c.even {
			t.Fatalf("RingIn of %v is %v, RingEven %v", p, impl.RingIn(p), impl.RingEven(p))
		}
	}
	for _, order := range [][2][]int{{c.p, c.back}, {c.back, c.p}} {
		both, ok := impl.RingTimes(order[0], order[1])
		mustBe(t, inOrder(len(c.p)), both, ok, "RingTimes", order)
	}
	still := inOrder(len(c.p))
	for _, order := range [][2][]int{{c.p, still}, {still, c.p}} {
		both, ok := impl.RingTimes(order[0], order[1])
		mustBe(t, c.p, both, ok, "RingTimes", order)
	}
}

// Rule of the document: written out, rings of one thing, of two and of more.
func TestRingsWritten(t *testing.T) {
	cases := []ringCase{
		{p: []int{0}, rings: []int{0}, back: []int{0}, even: true, alike: 1},
		{p: []int{0, 1}, rings: []int{0, 1}, back: []int{0, 1}, even: true, alike: 1},
		{p: []int{1, 0}, rings: []int{0, 0}, back: []int{1, 0}, alike: 1},
		{p: []int{1, 0, 2}, rings: []int{0, 0, 1}, back: []int{1, 0, 2}, alike: 1},
		{p: []int{2, 1, 0}, rings: []int{0, 1, 0}, back: []int{2, 1, 0}, alike: 1},
		{p: []int{1, 2, 0}, rings: []int{0, 0, 0}, back: []int{2, 0, 1}, even: true, alike: 2},
		{p: []int{2, 0, 1}, rings: []int{0, 0, 0}, back: []int{1, 2, 0}, even: true, alike: 2},
		{p: []int{2, 3, 0, 1}, rings: []int{0, 1, 0, 1}, back: []int{2, 3, 0, 1}, even: true, alike: 1},
		{p: []int{0, 3, 1, 2}, rings: []int{0, 1, 1, 1}, back: []int{0, 2, 3, 1}, even: true, alike: 2},
		{p: []int{3, 2, 4, 0, 1}, rings: []int{0, 1, 1, 0, 1}, back: []int{3, 4, 1, 0, 2}, alike: 2},
		{p: []int{5, 7, 2, 0, 1, 3, 6, 4}, rings: []int{0, 1, 2, 0, 1, 0, 3, 1}, back: []int{3, 4, 2, 5, 7, 0, 6, 1}, even: true, alike: 4},
		{p: []int{0, 7, 6, 5, 4, 3, 2, 1}, rings: []int{0, 1, 2, 3, 4, 3, 2, 1}, back: []int{0, 7, 6, 5, 4, 3, 2, 1}, alike: 1},
	}
	for _, c := range cases {
		checkRings(t, c)
	}
	got, ok := impl.RingTimes([]int{1, 0, 2}, []int{0, 2, 1})
	mustBe(t, []int{2, 0, 1}, got, ok, "RingTimes")
	got, ok = impl.RingTimes([]int{0, 2, 1}, []int{1, 0, 2})
	mustBe(t, []int{1, 2, 0}, got, ok, "RingTimes")
	got, ok = impl.RingSwap([]int{1, 2, 3, 0}, 3, 1)
	mustBe(t, []int{1, 0, 3, 2}, got, ok, "RingSwap")
	got, ok = impl.RingOf([]int{0, 1, 0, 2, 1, 0, 2, 0})
	mustBe(t, []int{2, 4, 5, 6, 1, 7, 3, 0}, got, ok, "RingOf")
}

// Rule of the document: a thing led to itself is alone in its ring, among
// others that are too or in a great one.
func TestThingsLedToThemselves(t *testing.T) {
	for n := 1; n <= most; n++ {
		still := inOrder(n)
		checkRings(t, ringCase{p: still, rings: still, back: still, even: true, alike: 1})
		p, ok := impl.RingOf(still)
		mustBe(t, still, p, ok, "RingOf", still)
		for alone := range n {
			others := slices.Delete(inOrder(n), alone, alone+1)
			p := inOrder(n)
			for i, thing := range others {
				p[thing] = others[(i+1)%len(others)]
			}
			rings := fromTogether(n, func(i int, k int) bool { return (i == alone) == (k == alone) })
			checkRings(t, ringCase{p: p, rings: rings, back: backOf(p), even: n < 2 || n%2 == 0, alike: factorial(max(n-2, 0))})
			led, ok := impl.RingOf(rings)
			mustBe(t, p, led, ok, "RingOf", rings)
		}
	}
}

// Rule of the document: all things in one ring, in their order or against it.
func TestOneRing(t *testing.T) {
	for n := 1; n <= most; n++ {
		around := greatRing(n)
		back := backOf(around)
		for _, p := range [][]int{around, back} {
			checkRings(t, ringCase{p: p, rings: oneBlock(n), back: backOf(p), even: n%2 == 1, alike: factorial(n - 1)})
		}
		p, ok := impl.RingOf(oneBlock(n))
		mustBe(t, around, p, ok, "RingOf", oneBlock(n))
		for k := 1; k < n; k++ {
			// Exchanged with the place 0, the ring is parted behind both.
			other, ok := impl.RingSwap(around, 0, k)
			mustBe(t, swapOf(around, 0, k), other, ok, "RingSwap", around, 0, k)
			rings, ok := impl.RingPart(other)
			want := fromTogether(n, func(i int, j int) bool { return (i >= 1 && i <= k) == (j >= 1 && j <= k) })
			mustBe(t, want, rings, ok, "RingPart", other)
		}
	}
}

// ringQuestions returns calls of all functions of this chapter, wrong ones among them.
func ringQuestions() []question {
	var out []question
	put := func(name string, ask func() string) {
		out = append(out, question{name, ask})
	}
	permutations := append(namingsTo(4), greatRing(most), backwards(most), inOrder(most))
	for i, p := range slices.Concat(permutations, wrongPermutations()[:60]) {
		q := permutations[(i*i+3)%len(permutations)]
		put("RingIn", func() string { return fmt.Sprint(impl.RingIn(p)) })
		put("RingPart", func() string { return fmt.Sprint(impl.RingPart(p)) })
		put("RingBack", func() string { return fmt.Sprint(impl.RingBack(p)) })
		put("RingEven", func() string { return fmt.Sprint(impl.RingEven(p)) })
		for _, other := range [][]int{p, q, inOrder(max(len(p), 1)), greatRing(max(len(p), 1))} {
			put("RingTimes", func() string { return fmt.Sprint(impl.RingTimes(p, other)) })
			put("RingTimes", func() string { return fmt.Sprint(impl.RingTimes(other, p)) })
		}
		for _, pair := range [][2]int{{0, 1}, {2, 0}, {1, 1}, {-1, 2}, {3, len(p)}} {
			put("RingSwap", func() string { return fmt.Sprint(impl.RingSwap(p, pair[0], pair[1])) })
		}
	}
	for _, a := range slices.Concat(partitionsTo(5), wrongPartitions(), [][]int{inOrder(most), oneBlock(most)}) {
		put("RingOf", func() string { return fmt.Sprint(impl.RingOf(a)) })
		put("RingCount", func() string { return fmt.Sprint(impl.RingCount(a)) })
	}
	return out
}

// Rule of the document: functions keep no state between calls, so that the same question has the same answer.
func TestRingsAgain(t *testing.T) {
	checkAgain(t, ringQuestions())
}

// Rule of the document: arguments stay as they were, and results share no memory.
func TestRingsMemory(t *testing.T) {
	permutations := append(namingsTo(5), inOrder(most), greatRing(most), backwards(most), []int{5, 7, 2, 0, 1, 3, 6, 4})
	for _, p := range append(permutations, wrongPermutations()...) {
		alone := [][]int{p}
		checkApart(t, "RingPart", alone, func(g [][]int) [][]int { return one(impl.RingPart(g[0])) })
		checkApart(t, "RingBack", alone, func(g [][]int) [][]int { return one(impl.RingBack(g[0])) })
		checkApart(t, "RingIn", alone, func(g [][]int) [][]int { return none(impl.RingIn(g[0])) })
		checkApart(t, "RingEven", alone, func(g [][]int) [][]int { return none(impl.RingEven(g[0])) })
		checkApart(t, "RingTimes of one list", alone, func(g [][]int) [][]int { return one(impl.RingTimes(g[0], g[0])) })
		for _, q := range [][]int{p, inOrder(len(p)), backwards(len(p)), greatRing(max(len(p), 1))} {
			checkApart(t, "RingTimes", [][]int{p, q}, func(g [][]int) [][]int { return one(impl.RingTimes(g[0], g[1])) })
			checkApart(t, "RingTimes", [][]int{q, p}, func(g [][]int) [][]int { return one(impl.RingTimes(g[0], g[1])) })
		}
		for _, pair := range [][2]int{{0, 1}, {len(p) - 1, 0}, {0, 0}, {-1, 0}, {0, len(p)}} {
			checkApart(t, "RingSwap", alone, func(g [][]int) [][]int { return one(impl.RingSwap(g[0], pair[0], pair[1])) })
		}
	}
	for _, a := range append(partitionsTo(most), wrongPartitions()...) {
		checkApart(t, "RingOf", [][]int{a}, func(g [][]int) [][]int { return one(impl.RingOf(g[0])) })
		checkApart(t, "RingCount", [][]int{a}, func(g [][]int) [][]int { return none(impl.RingCount(g[0])) })
	}
}

// Rule of the document: results share no memory with those of other functions either.
func TestRingsApart(t *testing.T) {
	checkApart(t, "all functions of rings", [][]int{{0, 1, 0, 1, 2, 0}, {4, 1, 0, 5, 2, 3}, {0, 1, 2, 3, 4, 5}}, func(g [][]int) [][]int {
		of, _ := impl.RingOf(g[0])
		rings, _ := impl.RingPart(g[1])
		back, _ := impl.RingBack(g[1])
		left, _ := impl.RingTimes(g[2], g[1])
		right, _ := impl.RingTimes(g[1], g[2])
		still, _ := impl.RingBack(g[2])
		other, _ := impl.RingSwap(g[1], 5, 2)
		return [][]int{of, rings, back, left, right, still, other}
	})
}
